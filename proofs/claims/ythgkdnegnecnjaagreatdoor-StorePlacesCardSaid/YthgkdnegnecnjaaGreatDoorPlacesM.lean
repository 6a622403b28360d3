/- StorePlaces as mathematics: which page stands where. No conditions. -/
import Derived.Test.YthgkdnegnecnjaaGreatDoorSinv
set_option linter.unusedVariables false
set_option linter.unusedSimpArgs false
set_option maxRecDepth 20000
namespace Go.Proofs.YthgkdnegnecnjaaGreatDoor
open Go.RowKit

def hdP (j : Nat) : Hd.H := hN 2 (j : Int) (1 + (j : Int)) 0
def pgP (j : Nat) : List Nat := Hd.page (fillL (j : Int) 128) (hdP j)
theorem mayP (j : Nat) (hj : j ≤ 1000) : mayB 2 (j : Int) (1 + (j : Int)) 0 = true := mayB_yes ⟨by omega, by omega, by omega, by omega, Or.inl (Or.inr rfl)⟩
theorem hdP_ok {j : Nat} (hj : j ≤ 1000) : Hd.Ok (hdP j) := hN_ok (mayP j hj) (by omega) (by omega)
theorem layP {j : Nat} (hj : j ≤ 1000) : layO (fillL (j : Int) 128) 2 (j : Int) (1 + (j : Int)) 0 = some (pgP j) :=
  layO_yes (by rw [fillL_len]; decide) (mayP j hj)
theorem fitsP (j : Nat) : Hd.fits (fillL (j : Int) 128).length := by rw [fillL_len]; exact ⟨by decide, by decide⟩
theorem rdP {j : Nat} (hj : j ≤ 1000) : rdB (pgP j) = .valid (fillL (j : Int) 128) (hdP j) := rdB_page (hdP_ok hj) (fitsP j)
theorem rdHP {j : Nat} (hj : j ≤ 1000) : rdH (pgP j) = some (hdP j) := rdH_page (hdP_ok hj) (fitsP j)
def updF {α : Type} (f : Nat → α) (p : Nat) (v : α) : Nat → α := fun q => if q = p then v else f q
theorem updF_same {α : Type} (f : Nat → α) (p : Nat) (v : α) : updF f p v p = v := if_pos rfl
theorem updF_other {α : Type} (f : Nat → α) {p q : Nat} (v : α) (h : q ≠ p) : updF f p v q = f q := if_neg h
/-- Which page is needed, and which one it is. -/
structure PI (s : SS) (i : Nat) (ta : Nat → Nat) (tb : Nat → Bool) : Prop where
  si : SI s
  nm : NM s.c
  nb : s.c.nb = 16
  np : s.c.np = 4
  ns : s.c.ns = 128
  un : ∀ k, k < 16 → (s.c.nth k).marked = false
  used : usedN s ≤ i
  need : ∀ k q, k < 16 → q < 4 → (nee s k q = true ↔ tb (k * 4 + q) = true)
  pg : ∀ k q, k < 16 → q < 4 → nee s k q = true → ta (k * 4 + q) < i ∧ pgA s k q = pgP (ta (k * 4 + q)) ∧ s.hd (pno 4 k q) = some (hdP (ta (k * 4 + q)))
/-- Behind a crash. -/
structure PL (s : SS) (i : Nat) (ta : Nat → Nat) (tb : Nat → Bool) : Prop where
  sw : SW s
  wf : s.c.Wf
  ms : s.c.ms = []
  on : s.c.on = true
  nb : s.c.nb = 16
  np : s.c.np = 4
  ns : s.c.ns = 128
  pg : ∀ k q, k < 16 → q < 4 → tb (k * 4 + q) = true → ta (k * 4 + q) < i ∧ pgA s k q = pgP (ta (k * 4 + q)) ∧ s.hd (pno 4 k q) = some (hdP (ta (k * 4 + q)))
section
variable {s s1 : SS} {i : Nat} {ta : Nat → Nat} {tb : Nat → Bool} {k q : Nat}
theorem idx_inj {j r : Nat} (hq : q < 4) (hr : r < 4) : j * 4 + r = k * 4 + q ↔ (j = k ∧ r = q) := by omega
theorem PI.goal (h : PI s i ta tb) (hi : i < 64) : ∃ b : Nat, goalS s = (b : Int) := by
  refine goal_ex h.si (m := 0) ?_ (by rw [h.np, h.nb]; have := h.used; omega)
  rw [h.nb, Nat.le_zero, List.countP_eq_zero]
  intro k hk
  have hk16 := List.mem_range.1 hk
  have h1 := (h.si.b k (by rw [h.nb]; exact hk16)).mar
  simp only [beq_iff_eq]
  intro e
  have := h1.1 e
  rw [h.un k hk16] at this
  cases this
theorem PI.put (h : PI s i ta tb) (hi : i ≤ 60) : ∃ s1 k q, putS s 2 (i : Int) (1 + (i : Int)) 0 (fillL (i : Int) 128) = (s1, pno 4 k q, 0) ∧ k < 16 ∧ q < 4 ∧ tb (k * 4 + q) ≠ true ∧ cntN s1 = cntN s + 1 ∧ s1.c.misuse = s.c.misuse ∧ s1.c.ops ≤ s.c.ops + 2 ∧ PI s1 (i + 1) (updF ta (k * 4 + q) i) (updF tb (k * 4 + q) true) := by
  obtain ⟨b, hb⟩ := h.goal (by omega)
  obtain ⟨B0, s1, p1, p2, p3, p4⟩ := put_nm h.si h.nm hb (layP (j := i) (by omega)) (by omega) (by omega) (by rw [h.ns, fillL_len])
  rw [show hN 2 (i : Int) (1 + (i : Int)) 0 = hdP i from rfl] at p2
  rw [h.np] at p1
  have hb16 : b < 16 := by rw [← h.nb]; exact p2.lt
  have hq4 : B0.next < 4 := by rw [← h.np]; exact p2.q
  obtain ⟨n1, n2, n3⟩ := p2.new h.si
  rw [h.np] at n2
  have hfc := p2.eff.fc
  have hno : ¬ nee s b B0.next = true := by unfold nee; rw [p2.no]; decide
  refine ⟨s1, b, B0.next, p1, hb16, hq4, fun e => hno ((h.need _ _ hb16 hq4).2 e), p2.cnt h.si, p2.mis, p2.ops, p2.si, p2.nm, hfc.nb.trans h.nb, hfc.np.trans h.np, hfc.ns.trans h.ns, fun k hk => by rw [p2.mark]; exact h.un k hk, by rw [p2.used]; have := h.used; omega, fun k q hk hq => ?_, fun k q hk hq hN => ?_⟩
  · rw [p2.need h.si]
    by_cases e : k = b ∧ q = B0.next
    · rw [if_pos e, (idx_inj hq4 hq).2 e, updF_same]
    · rw [if_neg e, updF_other _ _ fun e2 => e ((idx_inj hq4 hq).1 e2)]; exact h.need k q hk hq
  · by_cases e : k = b ∧ q = B0.next
    · rw [(idx_inj hq4 hq).2 e, updF_same, e.1, e.2]
      exact ⟨Nat.lt_succ_self i, n1, n2⟩
    · rw [updF_other _ _ fun e2 => e ((idx_inj hq4 hq).1 e2)]
      rw [p2.need h.si, if_neg e] at hN
      obtain ⟨h1, h2, h3⟩ := h.pg k q hk hq hN
      obtain ⟨g1, g2, _⟩ := p2.stay h.si (by rw [h.nb]; exact hk) (by rw [h.np]; exact hq) hN
      rw [h.np] at g2
      exact ⟨by omega, g1.trans h2, g2.trans h3⟩
theorem PI.drop (h : PI s i ta tb) (hk : k < 16) (hq : q < 4) (hb : tb (k * 4 + q) = true) : ∃ s1, dropS s (pno 4 k q) = (s1, 0) ∧ s1.c = s.c ∧ cntN s1 + 1 = cntN s ∧ PI s1 i ta (updF tb (k * 4 + q) false) := by
  have hN := (h.need k q hk hq).2 hb
  obtain ⟨s1, S1, T1, e1, e2, e3, e4, e5, e6, e7⟩ := drop_nm h.si (by rw [h.nb]; exact hk) hN
  rw [h.np] at e1 e4
  have hdn := drop_need h.si (by rw [h.nb]; exact hk) e2 e3
  refine ⟨s1, e1, e5, drop_cnt (by rw [h.nb]; exact hk) hN e3, e6, by rw [e5]; exact h.nm, by rw [e5]; exact h.nb, by rw [e5]; exact h.np, by rw [e5]; exact h.ns, fun k hk => by rw [e5]; exact h.un k hk, ?_, fun j r hj hr => ?_, fun j r hj hr hN2 => ?_⟩
  · have hu := used_eff e3 (by rw [h.nb]; exact hk)
    have := h.used
    rcases e7 with e8 | ⟨e8, e9⟩
    · rw [e8] at hu; omega
    · rw [e8, e9] at hu
      have h1 : usedAt s.c.np 1 (s.c.nth k) = 0 := rfl
      omega
  · rw [hdn]
    by_cases e : j = k ∧ r = q
    · rw [if_pos e, (idx_inj hq hr).2 e, updF_same]
    · rw [if_neg e, updF_other _ _ fun e2 => e ((idx_inj hq hr).1 e2)]; exact h.need j r hj hr
  · rw [hdn] at hN2
    by_cases e : j = k ∧ r = q
    · rw [if_pos e] at hN2; cases hN2
    · rw [if_neg e] at hN2
      obtain ⟨h1, h2, h3⟩ := h.pg j r hj hr hN2
      refine ⟨h1, by unfold pgA; rw [e5]; exact h2, ?_⟩
      rw [e4, updH_other _ _ fun e8 => e (by obtain ⟨f1, f2⟩ := pno_inj hr hq e8; exact ⟨f1, f2⟩)]
      exact h3
theorem PI.lost (h : PI s i ta tb) (hi : i ≤ 300) : ∃ s1, newS { s.c with on := true } = (s1, 0) ∧ PL s1 i ta tb ∧ s1.c.misuse = s.c.misuse ∧ s1.c.ops ≤ s.c.ops + 128 := by
  obtain ⟨s1, h1, h2⟩ := new_rd (c := { s.c with on := true }) (h.si.wf.turn true) ⟨h.nm.ms, rfl⟩ h.si.sw.may
  have hb : ∀ k, s1.c.nth k = s.c.nth k := fun k => by unfold Chip.nth; rw [h2.bs]
  have hops := h2.ops
  rw [show ({ s.c with on := true } : Chip).nb = s.c.nb from rfl, h.nb] at hops
  refine ⟨s1, h1, ⟨h2.sw, h2.wf, h2.rd.ms, h2.rd.on, h2.fc.nb.trans h.nb, h2.fc.np.trans h.np, h2.fc.ns.trans h.ns, fun k q hk hq hB => ?_⟩, h2.mis, by exact hops⟩
  have hN := (h.need k q hk hq).2 hB
  obtain ⟨p1, p2, p3⟩ := h.pg k q hk hq hN
  have hlt := (need_lt h.si (by rw [h.nb]; exact hk) hN).1
  unfold pgA at p2 ⊢
  rw [hb]
  refine ⟨p1, p2, ?_⟩
  have := h2.hd k q (by show _ < s.c.nb; rw [h.nb]; exact hk) (by show _ < s.c.np; rw [h.np]; exact hq)
  rw [show ({ s.c with on := true } : Chip).np = s.c.np from rfl, h.np] at this
  rw [this, show (({ s.c with on := true } : Chip)).nth k = s.c.nth k from rfl, if_pos ⟨by show _ < s.c.nb; rw [h.nb]; exact hk, hlt⟩, p2, rdHP (by omega)]
/-- What is read of a page. -/
theorem PL.get (h : PL s i ta tb) (hi : i ≤ 300) {p : Nat} (hp : p < 64) : ∃ s1 e r, getS s (p : Int) = (s1, e, r) ∧ PL s1 i ta tb ∧ s1.c.ops ≤ s.c.ops + 1 ∧ s1.c.misuse = s.c.misuse ∧ (tb p = true → ta p ≤ 300 ∧ e = 0 ∧ r = .valid (fillL (ta p : Int) 128) (hdP (ta p)) ∧ s.hd (p : Int) = some (hdP (ta p))) := by
  have hk : p / 4 < 16 := by omega
  have hq : p % 4 < 4 := by omega
  have hpe : p / 4 * 4 + p % 4 = p := by omega
  have hpn : pno 4 (p / 4) (p % 4) = (p : Int) := by unfold pno; rw [hpe]
  have hpl := place_pno h.sw (k := p / 4) (q := p % 4) (by rw [h.nb]; exact hk) (by rw [h.np]; exact hq)
  rw [h.np, hpn] at hpl
  have hrd := read_rd h.wf ⟨h.ms, h.on⟩ (b := p / 4) (j := p % 4) (by rw [h.nb]; exact hk) (by rw [h.np]; exact hq)
  have hpg := h.pg (p / 4) (p % 4) hk hq
  rw [hpe, hpn] at hpg
  cases hh : s.hd (p : Int) with
  | none =>
    refine ⟨s, 8, .torn, getS_none hpl (by omega) hh, h, Nat.le_succ _, rfl, fun e => ?_⟩
    have := (hpg e).2.2
    rw [hh] at this
    cases this
  | some x =>
    refine ⟨{ s with c := s.c.tick }, 0, _, getS_ok hpl (by omega) hh hrd, ⟨⟨h.sw.nb, h.sw.np, h.sw.may⟩, h.wf.tick, h.ms, h.on, h.nb, h.np, h.ns, h.pg⟩, Nat.le_refl _, rfl, fun e => ?_⟩
    obtain ⟨h1, h2, h3⟩ := hpg e
    have h4 : (s.c.nth (p / 4)).pg.getD (p % 4) [] = pgP (ta p) := h2
    rw [hh] at h3
    exact ⟨by omega, rfl, by rw [h4, rdP (by omega)], h3⟩
end
end Go.Proofs.YthgkdnegnecnjaaGreatDoor
