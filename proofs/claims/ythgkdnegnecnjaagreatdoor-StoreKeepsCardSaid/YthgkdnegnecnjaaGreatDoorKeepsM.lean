/- StoreKeeps as mathematics: pages that stay. No conditions. -/
import Derived.Test.YthgkdnegnecnjaaGreatDoorSinv
set_option linter.unusedVariables false
set_option linter.unusedSimpArgs false
set_option maxRecDepth 20000
namespace Go.Proofs.YthgkdnegnecnjaaGreatDoor
open Go.RowKit

def hdK (j : Nat) : Hd.H := hN 1 (j : Int) (1 + (j : Int)) 0
def pgK (j : Nat) : List Nat := Hd.page (fillL (j : Int) 128) (hdK j)
theorem hdK_ok {j : Nat} (hj : j ≤ 1000) : Hd.Ok (hdK j) := hN_ok (mayB_yes ⟨by omega, by omega, by omega, by omega, Or.inl (Or.inl rfl)⟩) (by omega) (by omega)
theorem layK {j : Nat} (hj : j ≤ 1000) : layO (fillL (j : Int) 128) 1 (j : Int) (1 + (j : Int)) 0 = some (pgK j) :=
  layO_yes (by rw [fillL_len]; decide) (mayB_yes ⟨by omega, by omega, by omega, by omega, Or.inl (Or.inl rfl)⟩)
theorem fitsK (j : Nat) : Hd.fits (fillL (j : Int) 128).length := by rw [fillL_len]; exact ⟨by decide, by decide⟩
theorem rdK {j : Nat} (hj : j ≤ 1000) : rdB (pgK j) = .valid (fillL (j : Int) 128) (hdK j) := rdB_page (hdK_ok hj) (fitsK j)
theorem rdHK {j : Nat} (hj : j ≤ 1000) : rdH (pgK j) = some (hdK j) := rdH_page (hdK_ok hj) (fitsK j)
/-- A store in which pages stand, one for each number. -/
structure GK (s : SS) (ps : List (Nat × Nat)) : Prop where
  sw : SW s
  wf : s.c.Wf
  ms : s.c.ms = []
  nb : s.c.nb = 16
  np : s.c.np = 4
  ns : s.c.ns = 128
  len : ps.length ≤ 300
  pg : ∀ j, j < ps.length → (ps.getD j (0, 0)).1 < 16 ∧ (ps.getD j (0, 0)).2 < 4 ∧ (ps.getD j (0, 0)).2 < (s.c.nth (ps.getD j (0, 0)).1).next ∧ pgA s (ps.getD j (0, 0)).1 (ps.getD j (0, 0)).2 = pgK j ∧ s.hd (pno 4 (ps.getD j (0, 0)).1 (ps.getD j (0, 0)).2) = some (hdK j)
def pnK (p : Nat × Nat) : Int := pno 4 p.1 p.2
section
variable {s s1 : SS} {ps : List (Nat × Nat)} {j : Nat}
theorem GK.get (h : GK s ps) (hon : s.c.on = true) (hj : j < ps.length) : getS s (pnK (ps.getD j (0, 0))) = ({ s with c := s.c.tick }, 0, .valid (fillL (j : Int) 128) (hdK j)) ∧ GK { s with c := s.c.tick } ps := by
  obtain ⟨h1, h2, h3, h4, h5⟩ := h.pg j hj
  have hpl := place_pno h.sw (k := (ps.getD j (0, 0)).1) (q := (ps.getD j (0, 0)).2) (by rw [h.nb]; exact h1) (by rw [h.np]; exact h2)
  rw [h.np] at hpl
  have hrd := read_rd h.wf ⟨h.ms, hon⟩ (b := (ps.getD j (0, 0)).1) (j := (ps.getD j (0, 0)).2) (by rw [h.nb]; exact h1) (by rw [h.np]; exact h2)
  refine ⟨?_, ⟨h.sw.nb, h.sw.np, h.sw.may⟩, h.wf.tick, h.ms, h.nb, h.np, h.ns, h.len, h.pg⟩
  have := getS_ok hpl (by omega) h5 hrd
  unfold pnK
  rw [this]
  have h6 : (s.c.nth (ps.getD j (0, 0)).1).pg.getD (ps.getD j (0, 0)).2 [] = pgK j := h4
  rw [h6, rdK (by have := h.len; omega)]
theorem GK.lost (h : GK s ps) : ∃ s1, newS { s.c with on := true } = (s1, 0) ∧ GK s1 ps ∧ s1.c.on = true ∧ s1.c.misuse = s.c.misuse ∧ s1.c.ops ≤ s.c.ops + 128 := by
  obtain ⟨s1, h1, h2⟩ := new_rd (c := { s.c with on := true }) (h.wf.turn true) ⟨h.ms, rfl⟩ h.sw.may
  have hb : ∀ k, s1.c.nth k = s.c.nth k := fun k => by unfold Chip.nth; rw [h2.bs]
  have hops := h2.ops
  rw [show ({ s.c with on := true } : Chip).nb = s.c.nb from rfl, h.nb] at hops
  refine ⟨s1, h1, ⟨h2.sw, h2.wf, h2.rd.ms, h2.fc.nb.trans h.nb, h2.fc.np.trans h.np, h2.fc.ns.trans h.ns, h.len, fun j hj => ?_⟩, h2.rd.on, h2.mis, by exact hops⟩
  obtain ⟨p1, p2, p3, p4, p5⟩ := h.pg j hj
  unfold pgA at p4 ⊢
  rw [hb]
  refine ⟨p1, p2, p3, p4, ?_⟩
  have := h2.hd (ps.getD j (0, 0)).1 (ps.getD j (0, 0)).2 (by show _ < s.c.nb; rw [h.nb]; exact p1) (by show _ < s.c.np; rw [h.np]; exact p2)
  rw [show ({ s.c with on := true } : Chip).np = s.c.np from rfl, h.np] at this
  rw [this, show (({ s.c with on := true } : Chip)).nth (ps.getD j (0, 0)).1 = s.c.nth (ps.getD j (0, 0)).1 from rfl, if_pos ⟨by show _ < s.c.nb; rw [h.nb]; exact p1, p3⟩, p4, rdHK (by have := h.len; omega)]
end
def oF : Option (Nat × Nat) → List Nat
  | some p => [p.1]
  | none => []
/-- The same, while pages come and go. -/
structure KI (s : SS) (ps : List (Nat × Nat)) (old : Option (Nat × Nat)) (stay i : Nat) : Prop where
  si : SI s
  nm : NM s.c
  nb : s.c.nb = 16
  np : s.c.np = 4
  ns : s.c.ns = 128
  un : ∀ k, k < 16 → (s.c.nth k).marked = false
  len : ps.length = min i stay
  need : ∀ k q, k < 16 → (nee s k q = true ↔ (k, q) ∈ ps ∨ old = some (k, q))
  apart : ∀ p, old = some p → p ∉ ps ∧ p.1 < 16
  inb : ∀ p, p ∈ ps → p.1 < 16
  pg : ∀ j, j < ps.length → pgA s (ps.getD j (0, 0)).1 (ps.getD j (0, 0)).2 = pgK j ∧ s.hd (pno 4 (ps.getD j (0, 0)).1 (ps.getD j (0, 0)).2) = some (hdK j)
section
variable {s s1 : SS} {ps : List (Nat × Nat)} {old : Option (Nat × Nat)} {stay i j : Nat}
theorem getD_mem {α : Type} {l : List α} {j : Nat} (h : j < l.length) (d : α) : l.getD j d ∈ l := by rw [List.getD_eq_getElem?_getD, List.getElem?_eq_getElem h]; exact List.getElem_mem _
theorem KI.gk (h : KI s ps old stay i) (hs : stay ≤ 12) : GK s ps := by
  refine ⟨h.si.sw, h.si.wf, h.nm.ms, h.nb, h.np, h.ns, by rw [h.len]; omega, fun j hj => ?_⟩
  have hm := getD_mem hj (0, 0)
  have h1 := h.inb _ hm
  have h2 := (h.need _ _ h1).2 (Or.inl hm)
  have h3 := need_lt h.si (by rw [h.nb]; exact h1) h2
  rw [h.np] at h3
  exact ⟨h1, h3.2, h3.1, h.pg j hj⟩
theorem KI.goal (h : KI s ps old stay i) (hs : stay ≤ 12) : ∃ b : Nat, goalS s = (b : Int) := by
  rcases goalS_is s h.si.sw with e | e
  · exfalso
    have hg := goal_none h.si e
    have hp := pigeon 16 (ps.map Prod.fst ++ oF old) fun k hk => by
      have h4 := hg k (by rw [h.nb]; exact hk)
      have h3 : s.y.S.getD k 0 = 3 := by
        rcases h4 with e | e
        · exact e
        · have := ((h.si.b k (by rw [h.nb]; exact hk)).mar).1 e
          rw [h.un k hk] at this
          cases this
      obtain ⟨q, hq⟩ := (h.si.b k (by rw [h.nb]; exact hk)).se h3
      rcases (h.need k q hk).1 hq with e | e
      · exact List.mem_append.2 (Or.inl (List.mem_map.2 ⟨_, e, rfl⟩))
      · rw [e]; exact List.mem_append.2 (Or.inr (List.mem_singleton.2 rfl))
    rw [List.length_append, List.length_map, h.len] at hp
    have : (oF old).length ≤ 1 := by cases old <;> simp [oF]
    omega
  · exact ⟨(goalS s).toNat, by omega⟩
/-- One page more. -/
theorem KI.step (h : KI s ps old stay i) (hs : stay ≤ 12) (hi : i ≤ 400) :
    ∃ s1 s2 p, putS s 1 (i : Int) (1 + (i : Int)) 0 (fillL (i : Int) 128) = (s1, pnK p, 0) ∧ p.1 < 16 ∧ p.2 < 4 ∧ (old = none → s2 = s1) ∧ (∀ o, old = some o → dropS s1 (pnK o) = (s2, 0)) ∧ s1.c.ops ≤ s.c.ops + 2 ∧ s2.c = s1.c ∧ s1.c.misuse = s.c.misuse
      ∧ (if i < stay then KI s2 (ps ++ [p]) none stay (i + 1) else KI s2 ps (some p) stay (i + 1)) := by
  obtain ⟨b, hb⟩ := h.goal hs
  obtain ⟨B0, s1, p1, p2, p3, p4⟩ := put_nm h.si h.nm hb (layK (j := i) (by omega)) (by omega) (by omega) (by rw [h.ns, fillL_len])
  rw [show hN 1 (i : Int) (1 + (i : Int)) 0 = hdK i from rfl] at p2
  rw [h.np] at p1
  have hb16 : b < 16 := by rw [← h.nb]; exact p2.lt
  have hq4 : B0.next < 4 := by rw [← h.np]; exact p2.q
  obtain ⟨n1, n2, n3⟩ := p2.new h.si
  rw [h.np] at n2
  have hfc := p2.eff.fc
  have hnew : (b, B0.next) ∉ ps ∧ old ≠ some (b, B0.next) := by
    have h0 : ¬ nee s b B0.next = true := by unfold nee; rw [p2.no]; decide
    exact ⟨fun e => h0 ((h.need b _ hb16).2 (Or.inl e)), fun e => h0 ((h.need b _ hb16).2 (Or.inr e))⟩
  have hstay : ∀ k r, k < 16 → nee s k r = true → pgA s1 k r = pgA s k r ∧ s1.hd (pno 4 k r) = s.hd (pno 4 k r) := fun k r hk hN => by
    have h3 := need_lt h.si (by rw [h.nb]; exact hk) hN
    have := p2.stay h.si (by rw [h.nb]; exact hk) h3.2 hN
    rw [h.np] at this
    exact ⟨this.1, this.2.1⟩
  -- what is needed, and what stands there, behind the drop
  obtain ⟨s2, d0, d1, dc, dsi, dneed, dhd⟩ : ∃ s2, (old = none → s2 = s1) ∧ (∀ o, old = some o → dropS s1 (pnK o) = (s2, 0)) ∧ s2.c = s1.c ∧ SI s2 ∧ (∀ k q, k < 16 → (nee s2 k q = true ↔ (k, q) ∈ ps ∨ (k, q) = (b, B0.next))) ∧ (∀ k q, k < 16 → nee s2 k q = true → q < 4 → s2.hd (pno 4 k q) = s1.hd (pno 4 k q)) := by
    have hn1 : ∀ k q, k < 16 → (nee s1 k q = true ↔ ((k, q) ∈ ps ∨ old = some (k, q)) ∨ (k, q) = (b, B0.next)) := fun k q hk => by
      rw [p2.need h.si]
      by_cases e : k = b ∧ q = B0.next
      · rw [if_pos e]; exact ⟨fun _ => Or.inr (by rw [e.1, e.2]), fun _ => rfl⟩
      · rw [if_neg e, h.need k q hk]
        exact ⟨Or.inl, fun e2 => e2.elim id fun e3 => absurd (by injection e3 with a1 a2; exact ⟨a1, a2⟩) e⟩
    cases ho : old with
    | none =>
      refine ⟨s1, fun _ => rfl, (fun o e => by cases e), rfl, p2.si, fun k q hk => ?_, fun _ _ _ _ _ => rfl⟩
      rw [hn1 k q hk, ho]
      exact ⟨fun e => e.imp (fun e2 => e2.elim id fun e3 => by cases e3) id, fun e => e.imp Or.inl id⟩
    | some o =>
      obtain ⟨o1, o2⟩ := h.apart o ho
      have hNo : nee s1 o.1 o.2 = true := (hn1 o.1 o.2 o2).2 (Or.inl (Or.inr ho))
      obtain ⟨s2, S2, T2, e1, e2, e3, e4, e5, e6, e7⟩ := drop_nm p2.si (by rw [hfc.nb, h.nb]; exact o2) hNo
      rw [hfc.np, h.np] at e1 e2 e4
      have hd2 := drop_need p2.si (by rw [hfc.nb, h.nb]; exact o2) (by rw [hfc.np, h.np]; exact e2) e3
      refine ⟨s2, (fun e => by cases e), (fun o' e => by cases e; exact e1), e5, e6, fun k q hk => ?_, fun k q hk hN hq => ?_⟩
      · rw [hd2]
        by_cases e : k = o.1 ∧ q = o.2
        · rw [if_pos e]
          have ek : (k, q) = o := by rw [e.1, e.2]
          refine ⟨fun e8 => (by cases e8), fun e8 => ?_⟩
          rcases e8 with e8 | e8
          · rw [ek] at e8; exact absurd e8 o1
          · rw [ek] at e8; rw [ho, e8] at hnew; exact absurd rfl hnew.2
        · rw [if_neg e, hn1 k q hk, ho]
          refine ⟨fun e8 => e8.imp (fun e9 => e9.elim id fun e10 => ?_) id, fun e8 => e8.imp Or.inl id⟩
          exact absurd (by injection e10 with e11; rw [e11]; exact ⟨rfl, rfl⟩) e
      · rw [e4, updH_other _ _ fun e8 => ?_]
        obtain ⟨f1, f2⟩ := pno_inj hq e2 e8
        rw [hd2, if_pos ⟨f1, f2⟩] at hN
        cases hN
  have hpg2 : ∀ j, j < ps.length → pgA s2 (ps.getD j (0, 0)).1 (ps.getD j (0, 0)).2 = pgK j ∧ s2.hd (pno 4 (ps.getD j (0, 0)).1 (ps.getD j (0, 0)).2) = some (hdK j) := fun j hj => by
    have hm := getD_mem hj (0, 0)
    have h1 := h.inb _ hm
    have h2 := (h.need _ _ h1).2 (Or.inl hm)
    have h3 := (need_lt h.si (by rw [h.nb]; exact h1) h2).2
    rw [h.np] at h3
    obtain ⟨g1, g2⟩ := hstay _ _ h1 h2
    obtain ⟨g3, g4⟩ := h.pg j hj
    have g5 : pgA s2 (ps.getD j (0, 0)).1 (ps.getD j (0, 0)).2 = pgA s1 (ps.getD j (0, 0)).1 (ps.getD j (0, 0)).2 := by unfold pgA; rw [dc]
    exact ⟨g5.trans (g1.trans g3), (dhd _ _ h1 ((dneed _ _ h1).2 (Or.inl hm)) h3).trans (g2.trans g4)⟩
  have hnp2 : pgA s2 b B0.next = pgK i ∧ s2.hd (pno 4 b B0.next) = some (hdK i) := by
    refine ⟨by unfold pgA; rw [dc]; exact n1, ?_⟩
    rw [dhd _ _ hb16 ((dneed _ _ hb16).2 (Or.inr rfl)) hq4, n2]
  refine ⟨s1, s2, (b, B0.next), p1, hb16, hq4, d0, d1, p2.ops, dc, p2.mis, ?_⟩
  have c1 : NM s2.c := by rw [dc]; exact p2.nm
  have c2 : s2.c.nb = 16 := by rw [dc]; exact hfc.nb.trans h.nb
  have c3 : s2.c.np = 4 := by rw [dc]; exact hfc.np.trans h.np
  have c4 : s2.c.ns = 128 := by rw [dc]; exact hfc.ns.trans h.ns
  have c5 : ∀ k, k < 16 → (s2.c.nth k).marked = false := fun k hk => by rw [dc, p2.mark]; exact h.un k hk
  by_cases hlt : i < stay
  · rw [if_pos hlt]
    refine ⟨dsi, c1, c2, c3, c4, c5, by rw [List.length_append, h.len]; simp; omega, fun k q hk => ?_, (fun p e => by cases e), fun p hp => ?_, fun j hj => ?_⟩
    · rw [dneed k q hk, List.mem_append, List.mem_singleton]
      exact ⟨Or.inl, fun e => e.elim id fun e2 => by cases e2⟩
    · rcases List.mem_append.1 hp with e | e
      · exact h.inb p e
      · rw [List.mem_singleton.1 e]; exact hb16
    · by_cases e : j < ps.length
      · have : (ps ++ [(b, B0.next)]).getD j (0, 0) = ps.getD j (0, 0) := by rw [List.getD_eq_getElem?_getD, List.getElem?_append_left e, ← List.getD_eq_getElem?_getD]
        rw [this]; exact hpg2 j e
      · have ej : j = ps.length := by rw [List.length_append] at hj; simp at hj; omega
        have : (ps ++ [(b, B0.next)]).getD j (0, 0) = (b, B0.next) := by rw [ej, List.getD_eq_getElem?_getD, List.getElem?_append_right (Nat.le_refl _)]; simp
        have ei : j = i := by rw [ej, h.len]; omega
        rw [this, ei]; exact hnp2
  · rw [if_neg hlt]
    refine ⟨dsi, c1, c2, c3, c4, c5, by rw [h.len]; omega, fun k q hk => ?_, fun p e => ?_, h.inb, hpg2⟩
    · rw [dneed k q hk]
      exact ⟨fun e => e.imp id fun e2 => by rw [e2], fun e => e.imp id fun e2 => (Option.some.inj e2).symm⟩
    · cases e; exact ⟨hnew.1, hb16⟩
end
end Go.Proofs.YthgkdnegnecnjaaGreatDoor
