/- The landed ideal in memory: its state as mathematics, its map, its rows; what only tells of one row; at, put. Conditions: an ideal that stands so; at most 1000 addresses. The landed ideal: what a list tells, what may be at an address, put by what the map's operation does. Conditions: the lists' cells. -/
import Derived.Test.YtfidamiomnohcaaIdIns
import Derived.Test.YtfidamiomnohcaaMoves
set_option linter.unusedVariables false
set_option linter.unusedSimpArgs false
set_option maxRecDepth 20000
namespace Go.Proofs.Ytfidamiomnohcaa
section
open Go.RowKit

def firstT (l : List Th) : Th := l.getD 0 Th.zero
def lastT (l : List Th) : Th := l.getD (l.length - 1) Th.zero
def isNo (l : List Th) : Bool := (firstT l).k == 0
def isBlk (l : List Th) : Bool := (lastT l).k != 0
def isDir (l : List Th) : Bool := (lastT l).k == 2
def isSure (l : List Th) : Bool := (firstT l).k == 2
theorem getD_mem {l : List Th} {i : Nat} (h : i < l.length) : l.getD i Th.zero ∈ l := by
  rw [List.getD_eq_getElem?_getD, List.getElem?_eq_getElem h]; exact List.getElem_mem h
theorem first_mem {l : List Th} (h : l ≠ []) : firstT l ∈ l := getD_mem (List.length_pos_iff.2 h)
theorem last_mem {l : List Th} (h : l ≠ []) : lastT l ∈ l := getD_mem (by have := List.length_pos_iff.2 h; omega)
theorem lt_le {a b : Th} (h : ltT a b) : a.k ≤ b.k := by rcases h with h | ⟨h, _⟩ <;> omega
theorem first_min {l : List Th} (hs : Srt l) {t : Th} (ht : t ∈ l) : (firstT l).k ≤ t.k := by
  cases l with
  | nil => cases ht
  | cons y r =>
    show y.k ≤ t.k
    rcases List.mem_cons.1 ht with rfl | ht
    · omega
    · exact lt_le ((List.pairwise_cons.1 hs).1 t ht)
theorem last_max : ∀ {l : List Th}, Srt l → ∀ {t : Th}, t ∈ l → t.k ≤ (lastT l).k
  | [], _, t, ht => by cases ht
  | [y], _, t, ht => by rw [List.mem_singleton.1 ht]; exact Int.le_refl _
  | y :: z :: r, hs, t, ht => by
    obtain ⟨h1, h2⟩ := List.pairwise_cons.1 hs
    have e : lastT (y :: z :: r) = lastT (z :: r) := rfl
    rw [e]
    rcases List.mem_cons.1 ht with rfl | ht
    · exact lt_le (h1 _ (last_mem (by simp)))
    · exact last_max h2 ht
theorem isNo_iff {l : List Th} (hs : Srt l) (hn : l ≠ []) (ho : ∀ t ∈ l, ThOk t) : isNo l = true ↔ Th.zero ∈ l := by
  unfold isNo
  rw [beq_iff_eq]
  constructor
  · intro h
    have := (ho _ (first_mem hn)).eq_zero h
    rw [← this]; exact first_mem hn
  · intro h
    have h1 := first_min hs h
    have h2 := (ho _ (first_mem hn)).lo
    have h3 : Th.zero.k = 0 := rfl
    omega
theorem isBlk_iff {l : List Th} (hs : Srt l) (hn : l ≠ []) (ho : ∀ t ∈ l, ThOk t) : isBlk l = true ↔ ∃ t ∈ l, t.k ≠ 0 := by
  unfold isBlk
  rw [bne_iff_ne]
  constructor
  · exact fun h => ⟨_, last_mem hn, h⟩
  · rintro ⟨t, ht, h⟩
    have h1 := last_max hs ht
    have h2 := (ho t ht).lo
    omega
theorem isDir_iff {l : List Th} (hs : Srt l) (hn : l ≠ []) (ho : ∀ t ∈ l, ThOk t) : isDir l = true ↔ ∃ t ∈ l, t.k = 2 := by
  unfold isDir
  rw [beq_iff_eq]
  constructor
  · exact fun h => ⟨_, last_mem hn, h⟩
  · rintro ⟨t, ht, h⟩
    have h1 := last_max hs ht
    have h2 := (ho _ (last_mem hn)).hi
    omega
theorem isSure_iff {l : List Th} (hs : Srt l) (hn : l ≠ []) (ho : ∀ t ∈ l, ThOk t) : isSure l = true ↔ ∀ t ∈ l, t.k = 2 := by
  unfold isSure
  rw [beq_iff_eq]
  constructor
  · intro h t ht
    have h1 := first_min hs ht
    have h2 := (ho t ht).hi
    omega
  · exact fun h => h _ (first_mem hn)
theorem no_block {l : List Th} (hs : Srt l) (hn : l ≠ []) (ho : ∀ t ∈ l, ThOk t) (h : isBlk l = false) : l = [Th.zero] := by
  have hz : ∀ t ∈ l, t = Th.zero := fun t ht => by
    refine (ho t ht).eq_zero ?_
    by_cases e : t.k = 0
    · exact e
    · rw [(isBlk_iff hs hn ho).2 ⟨t, ht, e⟩] at h; cases h
  refine srt_ext hs (srt_one _) fun t => ⟨fun ht => by rw [hz t ht]; exact List.mem_singleton.2 rfl, fun ht => ?_⟩
  rw [List.mem_singleton.1 ht, ← hz _ (first_mem hn)]; exact first_mem hn
/- rising addresses -/
def Ris (l : List Int) : Prop := l.Pairwise (· < ·)
theorem Ris.nodup {l : List Int} (h : Ris l) : l.Nodup := by
  refine List.Pairwise.imp (fun {a b} hab e => ?_) h
  omega
theorem ris_ext : ∀ {l m : List Int}, Ris l → Ris m → (∀ t, t ∈ l ↔ t ∈ m) → l = m
  | [], [], _, _, _ => rfl
  | [], b :: m, _, _, h => by have := (h b).2 List.mem_cons_self; cases this
  | a :: l, [], _, _, h => by have := (h a).1 List.mem_cons_self; cases this
  | a :: l, b :: m, hl, hm, h => by
    obtain ⟨h1, h2⟩ := List.pairwise_cons.1 hl
    obtain ⟨k1, k2⟩ := List.pairwise_cons.1 hm
    have e : a = b := by
      have q1 : a = b ∨ b < a := by
        rcases List.mem_cons.1 ((h a).1 List.mem_cons_self) with e | hm
        · exact Or.inl e
        · exact Or.inr (k1 a hm)
      have q2 : b = a ∨ a < b := by
        rcases List.mem_cons.1 ((h b).2 List.mem_cons_self) with e | hm
        · exact Or.inl e
        · exact Or.inr (h1 b hm)
      omega
    subst e
    rw [ris_ext h2 k2 fun t => ?_]
    constructor
    · intro ht
      rcases List.mem_cons.1 ((h t).1 (List.mem_cons_of_mem _ ht)) with e | hm
      · have := h1 t ht; omega
      · exact hm
    · intro ht
      rcases List.mem_cons.1 ((h t).2 (List.mem_cons_of_mem _ ht)) with e | hm
      · have := k1 t ht; omega
      · exact hm
def insK : List Int → Int → List Int
  | [], a => [a]
  | y :: r, a => if y < a then y :: insK r a else if y = a then y :: r else a :: y :: r
theorem mem_insK : ∀ {l : List Int} {a y : Int}, y ∈ insK l a ↔ y = a ∨ y ∈ l
  | [], a, y => by simp [insK]
  | z :: r, a, y => by
    unfold insK
    split
    · rw [List.mem_cons, mem_insK, List.mem_cons]
      exact ⟨fun h => by rcases h with h | h | h <;> simp [h], fun h => by rcases h with h | h | h <;> simp [h]⟩
    · split
      · next e => subst e; simp
      · simp
theorem ris_insK : ∀ {l : List Int} {a : Int}, Ris l → Ris (insK l a)
  | [], a, _ => List.pairwise_singleton _ _
  | z :: r, a, h => by
    obtain ⟨h1, h2⟩ := List.pairwise_cons.1 h
    unfold insK
    split
    · next hz =>
      refine List.pairwise_cons.2 ⟨fun t ht => ?_, ris_insK h2⟩
      rcases mem_insK.1 ht with rfl | ht
      · exact hz
      · exact h1 t ht
    · split
      · exact h
      · refine List.pairwise_cons.2 ⟨fun t ht => ?_, h⟩
        rcases List.mem_cons.1 ht with rfl | ht
        · omega
        · have := h1 t ht; omega
theorem ris_filter {l : List Int} (p : Int → Bool) (h : Ris l) : Ris (l.filter p) := List.Pairwise.filter _ h
theorem len_insK (l : List Int) (a : Int) : (insK l a).length ≤ l.length + 1 := by
  induction l with
  | nil => simp [insK]
  | cons z r ih =>
    unfold insK
    split
    · simp; omega
    · split
      · simp
      · simp
/-- An ideal: the size of its blocks, what may be at each address, the addresses at which a block may be. -/
structure IS where
  size : Int
  f : Int → List Th
  ks : List Int
def strike (l : List Int) (a : Int) : List Int := l.filter fun y => decide (y ≠ a)
theorem mem_strike {l : List Int} {a y : Int} : y ∈ strike l a ↔ y ≠ a ∧ y ∈ l := by
  unfold strike; rw [List.mem_filter]; simp [and_comm]
def putS (s : IS) (a : Int) (l : List Th) : IS := ⟨s.size, upd s.f a l, if isBlk l then insK s.ks a else strike s.ks a⟩
def newS (size : Int) : IS := ⟨size, fun _ => [Th.zero], []⟩
/-- A list of things as it may stand at an address. -/
structure LOk (l : List Th) : Prop where
  srt : Srt l
  ne : l ≠ []
  ok : ∀ t ∈ l, ThOk t
  no : ∀ t ∈ l, t.k = 1 → Th.zero ∈ l
structure IS.Ok (s : IS) : Prop where
  ris : Ris s.ks
  u64 : ∀ a ∈ s.ks, U64 a
  mem : ∀ a, a ∈ s.ks ↔ isBlk (s.f a) = true
  l : ∀ a, LOk (s.f a)
theorem lok_zero : LOk [Th.zero] := ⟨srt_one _, by simp, fun t ht => by rw [List.mem_singleton.1 ht]; exact ok_zero, fun t ht h => by rw [List.mem_singleton.1 ht] at h; exact absurd h (by decide)⟩
theorem IS.Ok.out {s : IS} (h : s.Ok) {a : Int} (ha : a ∉ s.ks) : s.f a = [Th.zero] :=
  no_block (h.l a).srt (h.l a).ne (h.l a).ok (by
    cases e : isBlk (s.f a) with
    | false => rfl
    | true => exact absurd ((h.mem a).2 e) ha)
theorem new_ok (size : Int) : (newS size).Ok := ⟨List.Pairwise.nil, fun a ha => (by cases ha), fun a => ⟨fun h => (by cases h), fun h => (by cases h)⟩, fun a => lok_zero⟩
theorem put_ok {s : IS} (h : s.Ok) {a : Int} (hu : U64 a) {l : List Th} (hl : LOk l) : (putS s a l).Ok := by
  refine ⟨?_, fun y hy => ?_, fun y => ?_, fun y => ?_⟩
  · show Ris (if isBlk l then _ else _)
    split
    · exact ris_insK h.ris
    · exact ris_filter _ h.ris
  · have hy' : y ∈ (if isBlk l then insK s.ks a else strike s.ks a) := hy
    split at hy'
    · rcases mem_insK.1 hy' with rfl | hy'
      · exact hu
      · exact h.u64 y hy'
    · exact h.u64 y (mem_strike.1 hy').2
  · show y ∈ (if isBlk l then insK s.ks a else strike s.ks a) ↔ isBlk (upd s.f a l y) = true
    by_cases e : y = a
    · subst e
      rw [upd_self]
      split
      · next hb => exact ⟨fun _ => hb, fun _ => mem_insK.2 (Or.inl rfl)⟩
      · next hb => exact ⟨fun q => absurd rfl (mem_strike.1 q).1, fun q => absurd q hb⟩
    · rw [upd_ne _ _ e, ← h.mem y]
      split
      · rw [mem_insK]; exact ⟨fun q => q.resolve_left e, Or.inr⟩
      · rw [mem_strike]; exact ⟨fun q => q.2, fun q => ⟨e, q⟩⟩
  · show LOk (upd s.f a l y)
    by_cases e : y = a
    · subst e; rw [upd_self]; exact hl
    · rw [upd_ne _ _ e]; exact h.l y
/-- What was there put again. -/
theorem put_same {s : IS} (h : s.Ok) (a : Int) : putS s a (s.f a) = s := by
  have e1 : upd s.f a (s.f a) = s.f := by
    funext y
    by_cases e : y = a
    · subst e; rw [upd_self]
    · rw [upd_ne _ _ e]
  unfold putS
  rw [e1]
  have e2 : (if isBlk (s.f a) then insK s.ks a else strike s.ks a) = s.ks := by
    split
    · next hb =>
      refine ris_ext (ris_insK h.ris) h.ris fun y => ?_
      rw [mem_insK]; exact ⟨fun q => q.elim (fun q => q ▸ (h.mem a).2 hb) id, Or.inr⟩
    · next hb =>
      refine ris_ext (ris_filter _ h.ris) h.ris fun y => ?_
      show y ∈ strike s.ks a ↔ _
      rw [mem_strike]; exact ⟨fun q => q.2, fun q => ⟨fun e => hb ((h.mem a).1 (e ▸ q)), q⟩⟩
  rw [e2]
theorem len_put (s : IS) (a : Int) (l : List Th) : (putS s a l).ks.length ≤ s.ks.length + 1 := by
  show (if isBlk l then insK s.ks a else strike s.ks a).length ≤ _
  split
  · exact len_insK _ _
  · have := List.length_filter_le (fun y => decide (y ≠ a)) s.ks
    unfold strike; omega
/-- Where its map and its rows lie. -/
structure IdL where
  mp : Option Nat
  g : Int → Nat
  c : Int → Nat
def elemOf (s : IS) (L : IdL) : Int → Value := fun a => .slice (some ⟨L.g a, 0, none⟩) (s.f a).length (L.c a)
/-- An ideal in memory, but for the row at one address, and for its map. -/
structure IdBut (w : World) (base : Nat) (fp : Nat → Prop) (o : Nat) (s : IS) (L : IdL) (x : Int → Prop) : Prop where
  obj : w.heap[o]? = some (.cells #[.int .i64 s.size, .map L.mp] 60 (0, 0))
  fo : fp o
  fm : ∀ b, L.mp = some b → fp b
  rows : ∀ a ∈ s.ks, ¬ x a → thK.Row w base (some ⟨L.g a, 0, none⟩) (s.f a).length (L.c a) (s.f a)
  fr : ∀ a ∈ s.ks, fp (L.g a)
  apart : ∀ a ∈ s.ks, ∀ a' ∈ s.ks, L.g a = L.g a' → a = a'
  gm : ∀ a ∈ s.ks, ∀ b, L.mp = some b → L.g a ≠ b
  go : ∀ a ∈ s.ks, L.g a ≠ o
  lt : ∀ b, fp b → b < w.heap.size
  ge : ∀ b, fp b → base ≤ b
  nil : L.mp = none → s.ks = []
  ok : s.Ok
structure IdIn (w : World) (base : Nat) (fp : Nat → Prop) (o : Nat) (s : IS) (L : IdL) : Prop where
  but : IdBut w base fp o s L (fun _ => False)
  map : ∀ b, L.mp = some b → MapF w b s.ks (elemOf s L)
def IdAt (w : World) (base : Nat) (fp : Nat → Prop) (o : Nat) (s : IS) : Prop := ∃ L, IdIn w base fp o s L
section
variable {w w' : World} {base o : Nat} {fp fq : Nat → Prop} {s : IS} {L : IdL} {x y : Int → Prop}
theorem IdBut.more (h : IdBut w base fp o s L x) (hy : ∀ a, x a → y a) : IdBut w base fp o s L y := { h with rows := fun a ha hn => h.rows a ha fun q => hn (hy a q) }
theorem IdBut.keep (h : IdBut w base fp o s L x) (hz : w.heap.size ≤ w'.heap.size) (e : ∀ b, fp b → (∀ m, L.mp = some m → b ≠ m) → w'.heap[b]? = w.heap[b]?) (hom : ∀ m, L.mp = some m → o ≠ m) : IdBut w' base fp o s L x :=
  { h with
    obj := (e o h.fo hom).trans h.obj
    rows := fun a ha hn => Row.at_block (h.rows a ha hn) fun b hb => by
      have : b = L.g a := by simpa [blk] using hb
      subst this
      exact e _ (h.fr a ha) fun m hm => h.gm a ha m hm
    lt := fun b hb => Nat.lt_of_lt_of_le (h.lt b hb) hz }
theorem obj_not_map (h : IdIn w base fp o s L) : ∀ m, L.mp = some m → o ≠ m := fun m hm e => by
  obtain ⟨D, ⟨es, clock, hb, _⟩, _⟩ := h.map m hm
  have h2 := h.but.obj
  rw [e, hb] at h2
  cases h2
theorem IdIn.keep (h : IdIn w base fp o s L) (hz : w.heap.size ≤ w'.heap.size) (e : ∀ b, fp b → w'.heap[b]? = w.heap[b]?) : IdIn w' base fp o s L :=
  ⟨h.but.keep hz (fun b hb _ => e b hb) (obj_not_map h), fun b hb => (h.map b hb).keep (e b (h.but.fm b hb))⟩
theorem IdIn.turn (h : IdIn w base fp o s L) (ht : Turn fq w w') (hn : ∀ b, fp b → ¬ fq b) : IdIn w' base fp o s L :=
  h.keep ht.size fun b hb => ht.block b (h.but.lt b hb) (hn b hb)
theorem IdIn.since (h : IdIn w base fp o s L) (hb : Below w.heap.size w w') : IdIn w' base fp o s L := h.keep hb.size fun b hf => hb.block b (h.but.lt b hf)
theorem IdAt.since (h : IdAt w base fp o s) (hb : Below w.heap.size w w') : IdAt w' base fp o s := by
  obtain ⟨L, h⟩ := h
  exact ⟨L, h.since hb⟩
theorem IdAt.turn (h : IdAt w base fp o s) (ht : Turn fq w w') (hn : ∀ b, fp b → ¬ fq b) : IdAt w' base fp o s := by
  obtain ⟨L, h⟩ := h
  exact ⟨L, h.turn ht hn⟩
theorem IdAt.elder (h : IdAt w base fp o s) {base' : Nat} (hb : base' ≤ base) : IdAt w base' fp o s := by
  obtain ⟨L, h⟩ := h
  exact ⟨L, { h.but with rows := fun a ha hn => (h.but.rows a ha hn).elder hb, ge := fun b hf => Nat.le_trans hb (h.but.ge b hf) }, h.map⟩
theorem IdAt.lt (h : IdAt w base fp o s) : ∀ b, fp b → b < w.heap.size := by
  obtain ⟨L, h⟩ := h
  exact h.but.lt
theorem IdAt.ge (h : IdAt w base fp o s) : ∀ b, fp b → base ≤ b := by
  obtain ⟨L, h⟩ := h
  exact h.but.ge
theorem IdAt.ok (h : IdAt w base fp o s) : s.Ok := by
  obtain ⟨L, h⟩ := h
  exact h.but.ok
theorem IdBut.c0 (h : IdBut w base fp o s L x) : w.cell? ⟨o, 0, none⟩ = some (.int .i64 s.size) := by rw [cell_of_row _ _ _ _ _ _ h.obj]; rfl
theorem IdBut.c1 (h : IdBut w base fp o s L x) : w.cell? ⟨o, 1, none⟩ = some (.map L.mp) := by rw [cell_of_row _ _ _ _ _ _ h.obj]; rfl
theorem IdBut.free (h : IdBut w base fp o s L x) (k : Nat) : w.frozen? ⟨o, k, none⟩ = false := by simp [World.frozen?, h.obj]
end
end

section
open Go.RowKit

theorem isno_any (A : Option Addr) (n c : Nat) (l : List Th) (w : World) (h0 : 0 < n) (hn : n ≤ 8000) (h : thK.Lie w w.heap.size A n l) :
    Calls Try.prog 67 #[.slice A n c] w fun e w' => e = .returned (.bool (isNo l)) ∧ w' = w := by
  obtain ⟨q, HQ⟩ : ∃ q, Hid (isNo l = q) := ⟨_, rfl⟩
  rw [HQ.out]
  obtain ⟨ad, rfl, hblk, hat⟩ := th_at h (k := 0) h0
  have hl : l.getD 0 Th.zero = firstT l := rfl
  rw [hl, show ad.add (0 * 2) = ad by rw [Nat.zero_mul, add_none]] at hat
  obtain ⟨e0, e1⟩ := hat
  obtain ⟨z, HZ⟩ : ∃ z, Hid ((firstT l).k = z) := ⟨_, rfl⟩
  rw [HZ.out] at e0
  have hz : (z == 0) = q := by rw [← HQ.out, ← HZ.out]; rfl
  have i2 : (0 : Int) < (n : Int) := by omega
  clear hl h e1 hblk
  rcases q with _ | _
  · go_enter Try.func67, Try.ntmps67
    go_wp2_with fail
    go_ret
    exact ⟨rfl, rfl⟩
  · go_enter Try.func67, Try.ntmps67
    go_wp2_with fail
    go_ret
    exact ⟨rfl, rfl⟩
theorem issure_any (A : Option Addr) (n c : Nat) (l : List Th) (w : World) (h0 : 0 < n) (hn : n ≤ 8000) (h : thK.Lie w w.heap.size A n l) :
    Calls Try.prog 38 #[.slice A n c] w fun e w' => e = .returned (.bool (isSure l)) ∧ w' = w := by
  obtain ⟨q, HQ⟩ : ∃ q, Hid (isSure l = q) := ⟨_, rfl⟩
  rw [HQ.out]
  obtain ⟨ad, rfl, hblk, hat⟩ := th_at h (k := 0) h0
  have hl : l.getD 0 Th.zero = firstT l := rfl
  rw [hl, show ad.add (0 * 2) = ad by rw [Nat.zero_mul, add_none]] at hat
  obtain ⟨e0, e1⟩ := hat
  obtain ⟨z, HZ⟩ : ∃ z, Hid ((firstT l).k = z) := ⟨_, rfl⟩
  rw [HZ.out] at e0
  have hz : (z == 2) = q := by rw [← HQ.out, ← HZ.out]; rfl
  have i2 : (0 : Int) < (n : Int) := by omega
  clear hl h e1 hblk
  rcases q with _ | _
  · go_enter Try.func38, Try.ntmps38
    go_wp2_with fail
    go_ret
    exact ⟨rfl, rfl⟩
  · go_enter Try.func38, Try.ntmps38
    go_wp2_with fail
    go_ret
    exact ⟨rfl, rfl⟩
theorem isblk_any (A : Option Addr) (n c : Nat) (l : List Th) (w : World) (h0 : 0 < n) (hn : n ≤ 8000) (h : thK.Lie w w.heap.size A n l) :
    Calls Try.prog 56 #[.slice A n c] w fun e w' => e = .returned (.bool (isBlk l)) ∧ w' = w := by
  obtain ⟨q, HQ⟩ : ∃ q, Hid (isBlk l = q) := ⟨_, rfl⟩
  rw [HQ.out]
  obtain ⟨m, hm⟩ : ∃ m, n = m + 1 := ⟨n - 1, by omega⟩
  obtain ⟨ad, rfl, hblk, hat⟩ := th_at h (k := m) (by omega)
  have hl : l.getD m Th.zero = lastT l := by unfold lastT; rw [h.len]; congr 1; omega
  rw [hl] at hat
  obtain ⟨e0, e1⟩ := hat
  obtain ⟨z, HZ⟩ : ∃ z, Hid ((lastT l).k = z) := ⟨_, rfl⟩
  rw [HZ.out] at e0
  have hz : (z != 0) = q := by rw [← HQ.out, ← HZ.out]; rfl
  have i0 : (n : Int) - 1 = (m : Int) := by omega
  have i1 : (0 : Int) ≤ (m : Int) := by omega
  have i2 : (m : Int) < (n : Int) := by omega
  have i3 : IntKind.i64.wrap ((n : Int) - 1) = (m : Int) := by rw [IntKind.wrap_i64]; omega
  clear hm hl h e1 hblk h0
  rcases q with _ | _
  · go_enter Try.func56, Try.ntmps56
    go_wp2_with fail
    go_ret
    exact ⟨rfl, rfl⟩
  · go_enter Try.func56, Try.ntmps56
    go_wp2_with fail
    go_ret
    exact ⟨rfl, rfl⟩
theorem isdir_any (A : Option Addr) (n c : Nat) (l : List Th) (w : World) (h0 : 0 < n) (hn : n ≤ 8000) (h : thK.Lie w w.heap.size A n l) :
    Calls Try.prog 39 #[.slice A n c] w fun e w' => e = .returned (.bool (isDir l)) ∧ w' = w := by
  obtain ⟨q, HQ⟩ : ∃ q, Hid (isDir l = q) := ⟨_, rfl⟩
  rw [HQ.out]
  obtain ⟨m, hm⟩ : ∃ m, n = m + 1 := ⟨n - 1, by omega⟩
  obtain ⟨ad, rfl, hblk, hat⟩ := th_at h (k := m) (by omega)
  have hl : l.getD m Th.zero = lastT l := by unfold lastT; rw [h.len]; congr 1; omega
  rw [hl] at hat
  obtain ⟨e0, e1⟩ := hat
  obtain ⟨z, HZ⟩ : ∃ z, Hid ((lastT l).k = z) := ⟨_, rfl⟩
  rw [HZ.out] at e0
  have hz : (z == 2) = q := by rw [← HQ.out, ← HZ.out]; rfl
  have i0 : (n : Int) - 1 = (m : Int) := by omega
  have i1 : (0 : Int) ≤ (m : Int) := by omega
  have i2 : (m : Int) < (n : Int) := by omega
  have i3 : IntKind.i64.wrap ((n : Int) - 1) = (m : Int) := by rw [IntKind.wrap_i64]; omega
  clear hm hl h e1 hblk h0
  rcases q with _ | _
  · go_enter Try.func39, Try.ntmps39
    go_wp2_with fail
    go_ret
    exact ⟨rfl, rfl⟩
  · go_enter Try.func39, Try.ntmps39
    go_wp2_with fail
    go_ret
    exact ⟨rfl, rfl⟩
end
end Go.Proofs.Ytfidamiomnohcaa
