/- IdealFixes as mathematics. No conditions. -/
import Derived.Test.YtfidamiomnohcaaIdAw
set_option linter.unusedVariables false
set_option linter.unusedSimpArgs false
set_option maxRecDepth 20000
namespace Go.Proofs.Ytfidamiomnohcaa
open Go.RowKit

theorem thB_inj : ∀ {X Y : List Nat}, (∀ b ∈ X, b < 256) → (∀ b ∈ Y, b < 256) → thB X = thB Y → X = Y
  | [], [], _, _, _ => rfl
  | [], y :: Y, _, _, h => by cases h
  | x :: X, [], _, _, h => by cases h
  | x :: X, y :: Y, hx, hy, h => by
    have h1 : UInt8.ofNat x = UInt8.ofNat y ∧ thB X = thB Y := by
      have : UInt8.ofNat x :: thB X = UInt8.ofNat y :: thB Y := h
      exact List.cons.inj this
    have h2 := congrArg UInt8.toNat h1.1
    have a1 := hx x List.mem_cons_self
    have a2 := hy y List.mem_cons_self
    have h3 : x = y := by simpa [UInt8.toNat_ofNat', Nat.mod_eq_of_lt a1, Nat.mod_eq_of_lt a2] using h2
    rw [h3, thB_inj (fun b hb => hx b (List.mem_cons_of_mem _ hb)) (fun b hb => hy b (List.mem_cons_of_mem _ hb)) h1.2]
theorem dir_ne {X Y : List Nat} (hx : ∀ b ∈ X, b < 256) (hy : ∀ b ∈ Y, b < 256) (h : X ≠ Y) : dirT X ≠ dirT Y := fun e => h (thB_inj hx hy (congrArg Th.d e))
/-- A bound for all lists and for the addresses. -/
structure Small (s : IS) (n k : Nat) : Prop where
  l : ∀ a, (s.f a).length ≤ n
  k : s.ks.length ≤ k
theorem small_new (z : Int) : Small (newS z) 1 0 := ⟨fun a => Nat.le_refl _, Nat.le_refl _⟩
theorem Small.put {s : IS} {n k m : Nat} (h : Small s n k) (a : Int) (l : List Th) (hl : l.length ≤ m) (hn : n ≤ m) : Small (putS s a l) m (k + 1) := ⟨fun y => by
  show (upd s.f a l y).length ≤ m
  by_cases e : y = a
  · subst e; rw [upd_self]; exact hl
  · rw [upd_ne _ _ e]; exact Nat.le_trans (h.l y) hn, by have := len_put s a l; have := h.k; omega⟩
theorem clean_dir (T : List Nat) : cleanedT [dirT T] = [Th.zero, clnT T] := with_clean T
theorem isT_with {l m : List Th} (t : Th) (hs : Srt l) : isT (withT l m) t = true ↔ t ∈ withT l m := isT_iff (srt_with hs)
structure FixM (a : Int) (X Y T O : List Nat) (s1 s2 s3 s5 s6 : IS) : Prop where
  t1 : takeT (newS 128) 1 a X 0 1 0 [] false 0 = (s1, true)
  t2 : takeT s1 1 a Y 0 4 4 [] false 0 = (s2, true)
  c1 : canT (s2.f a) 2 0 T true 0 = true
  c2 : canT (s2.f a) 2 0 O true 0 = true
  c3 : canT (s2.f a) 4 8 [] false 0 = false
  t3 : takeT s2 3 a [] 0 2 0 T true 0 = (s3, true)
  t4 : takeT s3 3 a [] 0 2 0 O true 0 = (s3, false)
  t4b : ∃ s4, takeT s3 3 a [] 0 2 0 T true 0 = (s4, true) ∧ Small s4 10 10 ∧ takeT s4 5 a [] 0 1 0 [] false 0 = (s5, true)
  t6 : takeT s5 3 a [] 0 4 8 [] false 0 = (s6, true)
  c6 : canT (s6.f a) 2 0 T true 0 = false
  b1 : Small s1 10 10
  b2 : Small s2 10 10
  b3 : Small s3 10 10
  b5 : Small s5 10 10
  b6 : Small s6 10 10
theorem fix_math (a : Int) (X Y T O : List Nat) (hX : X.length = 128) (hY : Y.length = 128) (hx : ∀ b ∈ X, b < 256) (hy : ∀ b ∈ Y, b < 256) (hne : X ≠ Y) (hTO : (T = X ∧ O = Y) ∨ (T = Y ∧ O = X)) : ∃ s1 s2 s3 s5 s6, FixM a X Y T O s1 s2 s3 s5 s6 := by
  have hd := dir_ne hx hy hne
  have hto : dirT O ≠ dirT T := by
    rcases hTO with ⟨rfl, rfl⟩ | ⟨rfl, rfl⟩
    · exact hd.symm
    · exact hd
  have hmem : ∀ t, t ∈ withT [dirT X] [dirT Y] ↔ t = dirT X ∨ t = dirT Y := fun t => by
    show t ∈ stepT [dirT X] (dirT Y) ↔ _
    rw [mem_step]
    constructor
    · rintro (h | ⟨_, h⟩ | h)
      · exact Or.inr h
      · exact absurd h (by show ¬ (2 : Int) = 1; decide)
      · exact Or.inl (List.mem_singleton.1 h)
    · rintro (h | h)
      · exact Or.inr (Or.inr (List.mem_singleton.2 h))
      · exact Or.inl h
  have hT : isT (withT [dirT X] [dirT Y]) (dirT T) = true := by
    rw [isT_with _ (srt_one _), hmem]
    rcases hTO with ⟨rfl, rfl⟩ | ⟨rfl, rfl⟩
    · exact Or.inl rfl
    · exact Or.inr rfl
  have hO : isT (withT [dirT X] [dirT Y]) (dirT O) = true := by
    rw [isT_with _ (srt_one _), hmem]
    rcases hTO with ⟨rfl, rfl⟩ | ⟨rfl, rfl⟩
    · exact Or.inr rfl
    · exact Or.inl rfl
  have hlen : (withT [dirT X] [dirT Y]).length ≤ 10 := Nat.le_trans (len_with _ _) (by show 1 + 2 * 1 ≤ 10; decide)
  have hno : isNo (withT [dirT X] [dirT Y]) = false := by
    rw [Bool.eq_false_iff]
    intro h
    have h2 := (isNo_iff (srt_with (srt_one _)) (fun e => by rw [e] at hlen; have := (hmem (dirT X)).2 (Or.inl rfl); rw [e] at this; cases this) (fun t ht => ?_)).1 h
    · rcases (hmem _).1 h2 with e | e
      · exact dir_ne_zero _ e.symm
      · exact dir_ne_zero _ e.symm
    · rcases (hmem _).1 ht with e | e <;> rw [e] <;> exact ok_read true _
  have k1 : ¬ (dirT T).k = 1 := by show ¬ (2 : Int) = 1; decide
  have b1 := (small_new 128).put a [dirT X] (m := 10) (by show 1 ≤ 10; decide) (by decide)
  have b2 := b1.put a (withT [dirT X] [dirT Y]) hlen (Nat.le_refl _)
  have b3 := b2.put a [dirT T] (by show 1 ≤ 10; decide) (Nat.le_refl _)
  have b4 := b3.put a [dirT T] (by show 1 ≤ 10; decide) (Nat.le_refl _)
  have b5 := b4.put a [Th.zero, clnT T] (by show 2 ≤ 10; decide) (Nat.le_refl _)
  have b6 := b5.put a [Th.zero] (by show 1 ≤ 10; decide) (Nat.le_refl _)
  have up : ∀ {s : IS} {k : Nat}, Small s 10 k → k ≤ 10 → Small s 10 10 := fun h hk => ⟨h.l, Nat.le_trans h.k hk⟩
  refine ⟨_, _, _, _, _, take_dirty _ _ _ (by rw [hX]; rfl), by rw [take_dark _ _ _ (by rw [hY]; rfl), put_self], ?_, ?_, ?_, ?_, ?_, ⟨_, ?_, up b4 (by decide), ?_⟩, ?_, ?_, up b1 (by decide), up b2 (by decide), up b3 (by decide), up b5 (by decide), up b6 (by decide)⟩
  · rw [can_read, put_self]; exact hT
  · rw [can_read, put_self]; exact hO
  · rw [can_none, put_self]; exact hno
  · rw [take_read, put_self, show readT true T = dirT T from rfl, hT, with_one _ k1]; rfl
  · rw [take_read, put_self, show readT true O = dirT O from rfl, isT_one, decide_eq_false hto]; rfl
  · rw [take_read, put_self, show readT true T = dirT T from rfl, isT_one, decide_eq_true rfl, with_one _ k1]; rfl
  · rw [take_clean, put_self, show isBlk [dirT T] = true from rfl, clean_dir]; rfl
  · rw [take_none, put_self, show isNo [Th.zero, clnT T] = true from rfl]; rfl
  · rw [can_read, put_self, show readT true T = dirT T from rfl, isT_one, decide_eq_false (dir_ne_zero T)]
/-- Another ideal that lies apart. -/
def IdRest (fp : Nat → Prop) (w : World) (base : Nat) (fq : Nat → Prop) (o : Nat) (s : IS) : Prop := IdAt w base fq o s ∧ ∀ b, fq b → ¬ fp b
theorem IdRest.step {fp fp' fq : Nat → Prop} {w w' : World} {base o : Nat} {s : IS} (h : IdRest fp w base fq o s) (hm : Moves w fp w' fp') : IdRest fp' w' base fq o s :=
  ⟨h.1.turn hm.turn h.2, fun b hb hf => by
    rcases hm.grows b hf with h1 | h1
    · exact h.2 b hb h1
    · have := h.1.lt b hb; omega⟩
theorem IdRest.since {fp fq : Nat → Prop} {w w' : World} {base o : Nat} {s : IS} (h : IdRest fp w base fq o s) (hb : Below w.heap.size w w') : IdRest fp w' base fq o s := h.step (Moves.of_below hb)
theorem idrest_new {fp fq : Nat → Prop} {w w' : World} {o : Nat} {s : IS} (h : IdAt w' w.heap.size fq o s) (hf : ∀ b, fp b → b < w.heap.size) : IdRest fp w' w.heap.size fq o s :=
  ⟨h, fun b hb hfb => by have h1 := h.ge b hb; have h2 := hf b hfb; omega⟩
theorem copy_at {w : World} {base o : Nat} {fp : Nat → Prop} {s : IS} (h : IdAt w base fp o s) (hks : s.ks.length ≤ 900) (hlen : ∀ a, (s.f a).length ≤ 400) : Calls Try.prog 27 #[.pointer (some ⟨o, 0, none⟩)] w (CopyOut w s) := by
  obtain ⟨L, hL⟩ := h
  exact copy_any hL hks hlen
theorem same_at (A A' : Option Addr) (n n' c c' : Nat) (bs cs : List Nat) (b : Bool) (w : World) (hn : n ≤ 300) (hn' : n' ≤ 300) (hA : Bytes w w.heap.size A n bs) (hA' : Bytes w w.heap.size A' n' cs) (hb : decide (bs = cs) = b) :
    Calls Try.prog 26 #[.slice A n c, .slice A' n' c'] w fun e w' => e = .returned (.bool b) ∧ Below w.heap.size w w' := by
  rw [← hb]
  exact same_any A A' n n' c c' bs cs w (by omega) (by omega) hA hA'
end Go.Proofs.Ytfidamiomnohcaa
