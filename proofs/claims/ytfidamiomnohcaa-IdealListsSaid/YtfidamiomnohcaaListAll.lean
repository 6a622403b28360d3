/- IdealLists as mathematics. No conditions. What stands in regions that take lists and append, whatever is drawn. No conditions. -/
import Derived.Test.YtfidamiomnohcaaIdListed
import Derived.Test.YtfidamiomnohcaaIdDirty
import Derived.Test.YtfidamiomnohcaaWordsShared
import Derived.Test.YtfidamiomnohcaaAppAll
import Derived.Test.YtfidamiomnohcaaRunK
import Derived.Test.YtfidamiomnohcaaRunBin
import Derived.Test.YtfidamiomnohcaaJoint
import Derived.Test.YtfidamiomnohcaaChain
set_option linter.unusedVariables false
set_option linter.unusedSimpArgs false
set_option maxRecDepth 20000
namespace Go.Proofs.Ytfidamiomnohcaa
section
open Go.RowKit

def D1 (i : Nat) : List Nat := fillL (i : Int) 128
/-- What is at the i-th address. -/
def lstT (cl : Nat → Bool) (i : Nat) : List Th := if cl i then [Th.zero, clnT (D1 i)] else [dirT (D1 i)]
/-- Behind n blocks. -/
structure LS (s : IS) (cl : Nat → Bool) (n : Nat) : Prop where
  sz : s.size = 128
  f : ∀ i, i < n → s.f (7 * (i : Int)) = lstT cl i
  out : ∀ y, (∀ i : Nat, i < n → y ≠ 7 * (i : Int)) → s.f y = [Th.zero]
/-- The dirty ones among the first n. -/
def dlL (cl : Nat → Bool) (n : Nat) : List Int := ((List.range n).filter fun i => !cl i).map fun (i : Nat) => 7 * (i : Int)
theorem lst_len (cl : Nat → Bool) (i : Nat) : (lstT cl i).length ≤ 2 := by unfold lstT; split <;> simp
theorem lst_blk (cl : Nat → Bool) (i : Nat) : isBlk (lstT cl i) = true := by unfold lstT; split <;> rfl
theorem lst_dir (cl : Nat → Bool) (i : Nat) : isDir (lstT cl i) = !cl i := by unfold lstT; cases cl i <;> rfl
theorem lst_sure (cl : Nat → Bool) (i : Nat) : isSure (lstT cl i) = !cl i := by unfold lstT; cases cl i <;> rfl
theorem ls_start (cl : Nat → Bool) : LS (newS 128) cl 0 := ⟨rfl, fun i hi => absurd hi (Nat.not_lt_zero i), fun y _ => rfl⟩
theorem ls_put {s : IS} {cl : Nat → Bool} {n : Nat} (h : LS s cl n) : LS (putS s (7 * (n : Int)) (lstT cl n)) cl (n + 1) := by
  refine ⟨h.sz, fun i hi => ?_, fun y hy => ?_⟩
  · show upd s.f (7 * (n : Int)) _ (7 * (i : Int)) = _
    by_cases e : i = n
    · rw [e, upd_self]
    · rw [upd_ne _ _ (by omega)]; exact h.f i (by omega)
  · show upd s.f (7 * (n : Int)) _ y = _
    rw [upd_ne _ _ (hy n (by omega))]
    exact h.out y fun i hi => hy i (by omega)
theorem ls_take {s : IS} {cl : Nat → Bool} {n : Nat} (h : LS s cl n) : takeT s (if cl n then 2 else 1) (7 * (n : Int)) (D1 n) 0 1 0 [] false 0 = (putS s (7 * (n : Int)) (lstT cl n), true) := by
  have hl : ((D1 n).length : Int) = s.size := by rw [h.sz]; unfold D1; rw [fillL_len]; rfl
  unfold lstT
  cases cl n
  · exact take_dirty _ _ _ hl
  · exact take_fill _ _ _ hl
theorem LS.small {s : IS} {cl : Nat → Bool} {n : Nat} (h : LS s cl n) (y : Int) : (s.f y).length ≤ 2 := by
  by_cases e : ∃ i : Nat, i < n ∧ y = 7 * (i : Int)
  · obtain ⟨i, hi, rfl⟩ := e
    rw [h.f i hi]; exact lst_len cl i
  · rw [h.out y fun i hi q => e ⟨i, hi, q⟩]; show 1 ≤ 2; decide
theorem LS.mem {s : IS} {cl : Nat → Bool} {n : Nat} (h : LS s cl n) (ho : s.Ok) (y : Int) : y ∈ s.ks ↔ ∃ i : Nat, i < n ∧ y = 7 * (i : Int) := by
  rw [ho.mem]
  constructor
  · intro hb
    by_cases e : ∃ i : Nat, i < n ∧ y = 7 * (i : Int)
    · exact e
    · rw [h.out y fun i hi q => e ⟨i, hi, q⟩] at hb; exact absurd hb (by decide)
  · rintro ⟨i, hi, rfl⟩
    rw [h.f i hi]; exact lst_blk cl i
theorem ris_map7 (n : Nat) (P : Nat → Bool) : Ris (((List.range n).filter P).map fun (i : Nat) => 7 * (i : Int)) := by
  refine List.Pairwise.map _ (R := fun a b : Nat => a < b) (fun a b h => by show 7 * (a : Int) < 7 * (b : Int); omega) ?_
  exact List.Pairwise.filter _ List.pairwise_lt_range
theorem LS.ks {s : IS} {cl : Nat → Bool} {n : Nat} (h : LS s cl n) (ho : s.Ok) : s.ks.length = n := by
  have e : s.ks = ((List.range n).filter fun _ => true).map fun (i : Nat) => 7 * (i : Int) := ris_ext ho.ris (ris_map7 n _) fun y => by
    rw [h.mem ho, List.mem_map]
    constructor
    · rintro ⟨i, hi, rfl⟩; exact ⟨i, by simp [hi], rfl⟩
    · rintro ⟨i, hi, rfl⟩; exact ⟨i, by simpa using hi, rfl⟩
  rw [e, List.length_map, List.filter_eq_self.2 (by simp), List.length_range]
theorem mem_dl {cl : Nat → Bool} {n : Nat} {y : Int} : y ∈ dlL cl n ↔ ∃ i : Nat, i < n ∧ cl i = false ∧ y = 7 * (i : Int) := by
  unfold dlL
  rw [List.mem_map]
  constructor
  · rintro ⟨i, hi, rfl⟩
    have := List.mem_filter.1 hi
    exact ⟨i, by simpa using this.1, by simpa using this.2, rfl⟩
  · rintro ⟨i, hi, hc, rfl⟩
    exact ⟨i, List.mem_filter.2 ⟨by simpa using hi, by simp [hc]⟩, rfl⟩
theorem ris_dl (cl : Nat → Bool) (n : Nat) : Ris (dlL cl n) := ris_map7 n _
theorem dl_len (cl : Nat → Bool) (n : Nat) : (dlL cl n).length ≤ n := by
  unfold dlL
  rw [List.length_map]
  exact Nat.le_trans (List.length_filter_le _ _) (by rw [List.length_range]; exact Nat.le_refl _)
theorem dl_next (cl : Nat → Bool) (n : Nat) : dlL cl (n + 1) = if cl n then dlL cl n else dlL cl n ++ [7 * (n : Int)] := by
  unfold dlL
  rw [List.range_succ, List.filter_append, List.map_append]
  cases h : cl n
  · simp [h]
  · simp [h]
theorem LS.tells {s : IS} {cl : Nat → Bool} {n : Nat} (h : LS s cl n) (ho : s.Ok) (P : List Th → Bool) (hP : ∀ i, P (lstT cl i) = !cl i) : (s.ks.filter fun x => P (s.f x)) = dlL cl n := by
  refine ris_ext (List.Pairwise.filter _ ho.ris) (ris_dl cl n) fun y => ?_
  rw [List.mem_filter, h.mem ho, mem_dl]
  constructor
  · rintro ⟨⟨i, hi, rfl⟩, hp⟩
    rw [h.f i hi, hP] at hp
    exact ⟨i, hi, by simpa using hp, rfl⟩
  · rintro ⟨i, hi, hc, rfl⟩
    refine ⟨⟨i, hi, rfl⟩, ?_⟩
    rw [h.f i hi, hP, hc]; rfl
theorem LS.sure {s : IS} {cl : Nat → Bool} {n : Nat} (h : LS s cl n) (ho : s.Ok) : sureL s = dlL cl n := h.tells ho isSure (lst_sure cl)
theorem LS.dirs {s : IS} {cl : Nat → Bool} {n : Nat} (h : LS s cl n) (ho : s.Ok) : dirsL s = dlL cl n := h.tells ho isDir (lst_dir cl)
/-- Where a list may be told nothing is struck. -/
theorem LS.stay {s : IS} {cl : Nat → Bool} {n : Nat} (h : LS s cl n) (ho : s.Ok) {a m : Int} {xs : List Int} (hm : MayL s a m xs) : ∀ x ∈ s.ks, spanT a m xs x = true → ∀ t ∈ s.f x, hitT (decide (x ∈ xs)) t = false := by
  intro x hx hsp t ht
  obtain ⟨i, hi, rfl⟩ := (h.mem ho x).1 hx
  have hf := h.f i hi
  rw [hf] at ht
  unfold hitT
  cases hc : cl i
  · have hin : 7 * (i : Int) ∈ xs := hm.all _ hx (by rw [hf, lst_sure, hc]; rfl) hsp
    rw [decide_eq_true hin]
    have : t = dirT (D1 i) := by unfold lstT at ht; rw [hc] at ht; simpa using ht
    rw [this]; rfl
  · have hnin : 7 * (i : Int) ∉ xs := fun q => by
      have := (hm.each _ q).2
      rw [hf, lst_dir, hc] at this; cases this
    rw [decide_eq_false hnin]
    have : t = Th.zero ∨ t = clnT (D1 i) := by unfold lstT at ht; rw [hc] at ht; simpa using ht
    rcases this with e | e <;> rw [e] <;> rfl
theorem LS.may_all {s : IS} {cl : Nat → Bool} {n : Nat} (h : LS s cl n) (ho : s.Ok) (hn : n ≤ 12) : MayL s 0 64 (dlL cl n) := by
  have hl := dl_len cl n
  refine ⟨by omega, ris_dl cl n, fun x hx => ?_, fun x hx hs _ => ?_⟩
  · obtain ⟨i, hi, hc, rfl⟩ := mem_dl.1 hx
    exact ⟨by omega, by rw [h.f i hi, lst_dir, hc]; rfl⟩
  · obtain ⟨i, hi, rfl⟩ := (h.mem ho x).1 hx
    rw [h.f i hi, lst_sure] at hs
    exact mem_dl.2 ⟨i, hi, by simpa using hs, rfl⟩
theorem LS.may_more {s : IS} {cl : Nat → Bool} {n : Nat} (h : LS s cl n) (hn : n ≤ 12) : ¬ MayL s 0 64 (dlL cl n ++ [1000]) := fun hm => by
  have h1 := (hm.each 1000 (List.mem_append_right _ (List.mem_singleton.2 rfl))).2
  rw [h.out 1000 fun i hi => by omega] at h1
  exact absurd h1 (by decide)
theorem LS.may_less {s : IS} {cl : Nat → Bool} {n : Nat} (h : LS s cl n) (ho : s.Ok) (hn : n ≤ 12) {p : Nat} (hp : p < (dlL cl n).length) : ¬ MayL s 0 64 ((dlL cl n).take p ++ (dlL cl n).drop (p + 1)) := fun hm => by
  have hl := dl_len cl n
  have hx : (dlL cl n)[p] ∈ dlL cl n := List.getElem_mem hp
  obtain ⟨i, hi, hc, he⟩ := mem_dl.1 hx
  have hin := hm.all (dlL cl n)[p] ((h.mem ho _).2 ⟨i, hi, he⟩) (by rw [he, h.f i hi, lst_sure, hc]; rfl) (by
    unfold spanT
    rw [if_neg (by rw [he]; omega), if_pos (by rw [List.length_append, List.length_take, List.length_drop]; omega)])
  have hr := List.pairwise_iff_getElem.1 (ris_dl cl n)
  rcases List.mem_append.1 hin with q | q
  · obtain ⟨j, hj, e⟩ := List.mem_iff_getElem.1 q
    rw [List.length_take] at hj
    rw [List.getElem_take] at e
    have := hr j p (by omega) hp (by omega)
    omega
  · obtain ⟨j, hj, e⟩ := List.mem_iff_getElem.1 q
    rw [List.length_drop] at hj
    rw [List.getElem_drop] at e
    have := hr p (p + 1 + j) hp (by omega) (by omega)
    omega
theorem LS.may_one {s : IS} {cl : Nat → Bool} {n : Nat} (h : LS s cl n) (ho : s.Ok) {x : Int} (hx : x ∈ dlL cl n) : MayL s x 1 [x] := by
  obtain ⟨i, hi, hc, rfl⟩ := mem_dl.1 hx
  refine ⟨by simp, List.pairwise_singleton _ _, fun y hy => ?_, fun y hy _ hsp => ?_⟩
  · rw [List.mem_singleton.1 hy]
    exact ⟨by omega, by rw [h.f i hi, lst_dir, hc]; rfl⟩
  · unfold spanT at hsp
    split at hsp
    · cases hsp
    · next h1 =>
      rw [if_neg (by simp)] at hsp
      simp at hsp
      rw [List.mem_singleton]; omega
end

section
open Go Go.RowKit

theorem run_load_order (b : Nat) (k a m : Int) (A : Option Addr) (n c : Nat) (W : World) (h : W.heap[b]? = some (.cells #[.int .i64 k, .int .u64 a, .slice A n c, .int .i64 m] 32 (0, 0))) : (Instr.loadAt 32 (.pointer (some ⟨b, 0, none⟩))).run Try.prog W = .ok (.agg #[.int .i64 k, .int .u64 a, .slice A n c, .int .i64 m]) W := by
  have c0 := cell_of_row _ _ 0 _ _ _ h
  have c1 := cell_of_row _ _ 1 _ _ _ h
  have c2 := cell_of_row _ _ 2 _ _ _ h
  have c3 := cell_of_row _ _ 3 _ _ _ h
  simp only [List.getElem?_toArray, List.getElem?_cons_zero, List.getElem?_cons_succ] at c0 c1 c2 c3
  clear h
  go_simp
theorem run_build_reply3 (A : Option Addr) (n c : Nat) (W : World) : (Instr.build 36 #[(0, .int .i64 3), (4, .slice A n c)]).run Try.prog W = .ok (.agg #[.int .i64 3, .int .i64 0, .slice none 0 0, .bool false, .slice A n c]) W := by go_simp
theorem run_build_w1 (x : Int) (W : World) : (Instr.buildSlice 34 1 #[(0, .int .u64 x)]).run Try.prog W = .ok (.slice (some ⟨W.heap.size, 0, none⟩) 1 1) (W.alloc (.cells #[.int .u64 x] 29)) := by go_simp
theorem not_done {ops : Array Oper} {a0 : Act} {F : Nat → Value → World → Prop} {dead : Nat → Option Nat} {listed : Array Bool} {a : Act} {w : World} (H : Holds2 ops a0 F dead listed a w) {i m : Nat} (hl : listed.getD i true = false) (f : Nat) (hn : reach ops f m i = true) (hm : m < ops.size) : listed.getD m true = false := by
  have hms : m < listed.size := by rw [H.len]; exact hm
  cases e : listed.getD m true with
  | false => rfl
  | true =>
    have e2 : listed.getD m false = true := by
      simp only [Array.getD, hms, dif_pos] at e ⊢; exact e
    have h := H.dones f e2 hn
    rw [done_true h] at hl
    cases hl
/-- What a region has about it. -/
structure LP where
  w0 : World
  base : Nat
  o : Nat
  s : IS
  A : Option Addr
  n : Nat
  c : Nat
  ds : List Int
  A' : Option Addr
  n' : Nat
  c' : Nat
  ds' : List Int
  g : Nat
  cs : Array Value
  g' : Nat
  cs' : Array Value
structure LG (p : LP) (fp : Nat → Prop) (W : World) : Prop where
  id : IdAt W p.base fp p.o p.s
  r1 : RestK wordK fp W p.base p.A p.n p.c p.ds
  r2 : RestK wordK fp W p.base p.A' p.n' p.c' p.ds'
  b1 : RestC fp W p.g p.cs 32
  b2 : RestC fp W p.g' p.cs' 32
  since : Below p.base p.w0 W
  le : p.base ≤ W.heap.size
variable {p : LP} {fp fp' : Nat → Prop} {W W' WD : World} {fs : List Bool} {vs : List Value}
theorem LG.step (h : LG p fp W) (hI : IdAt W' p.base fp' p.o p.s) (hM : Moves W fp W' fp') : LG p fp' W' :=
  ⟨hI, h.r1.step hM, h.r2.step hM, h.b1.step hM, h.b2.step hM, hM.below h.since h.id.ge h.le, Nat.le_trans h.le hM.size⟩
theorem LG.later (h : LG p fp W) (hb : Below W.heap.size W W') : LG p fp W' := h.step (h.id.since hb) (Moves.of_below hb)
structure J17 (p : LP) (WD : World) (fs : List Bool) (vs : List Value) (W : World) : Prop where
  lf : fs.length = 6
  lv : vs.length = 4
  agg : fs.getD 5 false = true → vs.getD 3 undef = .agg #[.int .i64 3, .int .i64 0, .slice none 0 0, .bool false, vs.getD 2 undef]
  old : fs.getD 4 false = false → Below WD.heap.size WD W
  ex : ∃ Wa fp, LG p fp Wa ∧ Below Wa.heap.size Wa W ∧ (fs.getD 0 false = true → fs.getD 2 false = false → ∃ A c, vs.getD 0 undef = .slice A p.n c ∧ wordK.Row W Wa.heap.size A p.n c p.ds) ∧
    (fs.getD 1 false = true → fs.getD 2 false = false → ∃ A, vs.getD 1 undef = .slice A 1 1 ∧ wordK.Lie W W.heap.size A 1 [1000]) ∧
    (fs.getD 2 false = true → fs.getD 3 false = false → ∃ A c, vs.getD 2 undef = .slice A (p.n + 1) c ∧ wordK.Row W Wa.heap.size A (p.n + 1) c (p.ds ++ [1000]))
theorem J17.ground (h : J17 p WD fs vs W) : ∃ fp, LG p fp W := by
  obtain ⟨Wa, fp, h1, h2, _⟩ := h.ex
  exact ⟨fp, h1.later h2⟩
theorem J17.later (h : J17 p WD fs vs W) (hl : Later W W') : J17 p WD fs vs W' := by
  obtain ⟨Wa, fp, h1, h2, k1, k2, k3⟩ := h.ex
  refine ⟨h.lf, h.lv, h.agg, fun e => below_chain (h.old e) hl, Wa, fp, h1, below_chain h2 hl, fun e f => ?_, fun e f => ?_, fun e f => ?_⟩
  · obtain ⟨A, c, e1, r⟩ := k1 e f
    exact ⟨A, c, e1, r.since hl⟩
  · obtain ⟨A, e1, r⟩ := k2 e f
    exact ⟨A, e1, r.since hl⟩
  · obtain ⟨A, c, e1, r⟩ := k3 e f
    exact ⟨A, c, e1, r.since hl⟩
theorem J17.start (h : LG p fp WD) (hv : vs.length = 4) : J17 p WD [false, false, false, false, false, false] vs WD :=
  ⟨rfl, hv, fun e => (by cases e), fun _ => Below.refl _ _, WD, fp, h, Below.refl _ _, fun e => (by cases e), fun e => (by cases e), fun e => (by cases e)⟩
/-- The first list is taken. -/
theorem J17.first (h : J17 p WD fs vs W) (hg : LG p fp' W') (h0 : fs.getD 0 false = false) (h1 : fs.getD 1 false = false) (h2 : fs.getD 2 false = false) : J17 p WD (fs.set 4 true) vs W' :=
  ⟨by simpa using h.lf, h.lv, fun e => h.agg (by rwa [gs_ne (by decide)] at e), fun e => (by rw [gs_self (by rw [h.lf]; decide)] at e; cases e), W', fp', hg, Below.refl _ _,
    fun e => (by rw [gs_ne (by decide), h0] at e; cases e), fun e => (by rw [gs_ne (by decide), h1] at e; cases e), fun e => (by rw [gs_ne (by decide), h2] at e; cases e)⟩
/-- The second one. -/
theorem J17.second (h : J17 p WD fs vs W) (hg : LG p fp' W') (h2 : fs.getD 2 false = true) (h4 : fs.getD 4 false = true) : J17 p WD (fs.set 3 true) vs W' :=
  ⟨by simpa using h.lf, h.lv, fun e => h.agg (by rwa [gs_ne (by decide)] at e), fun e => (by rw [gs_ne (by decide), h4] at e; cases e), W', fp', hg, Below.refl _ _,
    fun _ e => (by rw [gs_ne (by decide), h2] at e; cases e), fun _ e => (by rw [gs_ne (by decide), h2] at e; cases e), fun _ e => (by rw [gs_self (by rw [h.lf]; decide)] at e; cases e)⟩
theorem J17.app1 (h : J17 p WD fs vs W) (hn : p.n ≤ 4000) (h2 : fs.getD 2 false = false) : ∃ A c W', (Builtin.append_ #[wordK.L, wordK.L] wordK.L #[.slice none 0 0, .slice p.A p.n p.c]).run Try.prog W = .ok (.slice A p.n c) W' ∧ Later W W' ∧ J17 p WD (fs.set 0 true) (vs.set 0 (.slice A p.n c)) W' := by
  obtain ⟨Wa, fp, h1, hb, k1, k2, k3⟩ := h.ex
  have hG := h1.later hb
  have RN : RestK wordK fp W W.heap.size none 0 0 [] := ⟨Kind.Row.none_, fun b hb => by cases hb⟩
  obtain ⟨A, c, W', hr, hR, hT⟩ := RN.append_all (A' := p.A) (c' := p.c) hG.r1.row.lie (Nat.le_refl _) hG.id.lt (by omega)
  rw [Nat.zero_add, List.nil_append] at hR
  rw [Nat.zero_add] at hr
  have hB : Below W.heap.size W W' := hT.below (fun b hb => by cases hb) (Nat.le_refl _)
  refine ⟨A, c, W', hr, hB, ?_⟩
  obtain ⟨_, _, _, ho, _⟩ := h.later hB
  refine ⟨by simpa using h.lf, by simpa using h.lv, fun e => ((gs_ne (by decide)).trans (h.agg (by rwa [gs_ne (by decide)] at e))).trans (by rw [gs_ne (by decide)]), fun e => ho (by rwa [gs_ne (by decide)] at e), Wa, fp, h1, below_chain hb hB, fun e f => ?_, fun e f => ?_, fun e f => ?_⟩
  · exact ⟨A, c, gs_self (by rw [h.lv]; decide), hR.row.elder hb.size⟩
  · rw [gs_ne (by decide)] at e
    obtain ⟨A1, e1, r⟩ := k2 e h2
    exact ⟨A1, (gs_ne (by decide)).trans e1, r.since hB⟩
  · rw [gs_ne (by decide), h2] at e; cases e
theorem J17.lit (h : J17 p WD fs vs W) (h2 : fs.getD 2 false = false) : J17 p WD (fs.set 1 true) (vs.set 1 (.slice (some ⟨W.heap.size, 0, none⟩) 1 1)) (W.alloc (.cells #[.int .u64 1000] 29)) := by
  have hl : Later W (W.alloc (.cells #[.int .u64 1000] 29)) := later_alloc W _
  obtain ⟨Wa, fp, h1, hb, k1, k2, k3⟩ := (h.later hl).ex
  refine ⟨by simpa using h.lf, by simpa using h.lv, fun e => ((gs_ne (by decide)).trans (h.agg (by rwa [gs_ne (by decide)] at e))).trans (by rw [gs_ne (by decide)]), fun e => (h.later hl).old (by rwa [gs_ne (by decide)] at e), Wa, fp, h1, hb, fun e f => ?_, fun e f => ?_, fun e f => ?_⟩
  · rw [gs_ne (by decide)] at e f
    obtain ⟨A, c, e1, r⟩ := k1 e f
    exact ⟨A, c, (gs_ne (by decide)).trans e1, r⟩
  · exact ⟨_, gs_self (by rw [h.lv]; decide), wordK.new1 W 1000 ⟨by decide, by decide⟩ #[.int .u64 1000] rfl⟩
  · rw [gs_ne (by decide), h2] at e; cases e
theorem J17.app2 (h : J17 p WD fs vs W) (hn : p.n ≤ 4000) (h0 : fs.getD 0 false = true) (h1 : fs.getD 1 false = true) (h2 : fs.getD 2 false = false) (h4 : fs.getD 4 false = true) (h5 : fs.getD 5 false = false) : ∃ A c A1 c1 A2 W', vs.getD 0 undef = .slice A1 p.n c1 ∧ vs.getD 1 undef = .slice A2 1 1 ∧ (Builtin.append_ #[wordK.L, wordK.L] wordK.L #[.slice A1 p.n c1, .slice A2 1 1]).run Try.prog W = .ok (.slice A (p.n + 1) c) W' ∧ J17 p WD (fs.set 2 true) (vs.set 2 (.slice A (p.n + 1) c)) W' := by
  obtain ⟨Wa, fp, hg, hb, k1, k2, k3⟩ := h.ex
  obtain ⟨A1, c1, e1, r1⟩ := k1 h0 h2
  obtain ⟨A2, e2, r2⟩ := k2 h1 h2
  have RN : RestK wordK fp W Wa.heap.size A1 p.n c1 p.ds := ⟨r1, fun b h3 h4 => by have := Row.blk_ge r1 b h3; have := hg.id.lt b h4; omega⟩
  obtain ⟨A, c, W', hr, hR, hT⟩ := RN.append_all (A' := A2) (c' := 1) r2 hb.size (fun b h3 => Nat.lt_of_lt_of_le (hg.id.lt b h3) hb.size) (by omega)
  have hB : Below Wa.heap.size Wa W' := Turn.chain hb hT (fun b h3 => Row.blk_ge r1 b h3) hb.size
  refine ⟨A, c, A1, c1, A2, W', e1, e2, hr, by simpa using h.lf, by simpa using h.lv, fun e => (by rw [gs_ne (by decide), h5] at e; cases e), fun e => (by rw [gs_ne (by decide), h4] at e; cases e), Wa, fp, hg, hB, fun _ f => ?_, fun _ f => ?_, fun _ f => ?_⟩
  · rw [gs_self (by rw [h.lf]; decide)] at f; cases f
  · rw [gs_self (by rw [h.lf]; decide)] at f; cases f
  · exact ⟨A, c, gs_self (by rw [h.lv]; decide), hR.row⟩
theorem J17.built (h : J17 p WD fs vs W) {v : Value} (hv : vs.getD 2 undef = v) : J17 p WD (fs.set 5 true) (vs.set 3 (.agg #[.int .i64 3, .int .i64 0, .slice none 0 0, .bool false, v])) W := by
  subst hv
  obtain ⟨Wa, fp, hg, hb, k1, k2, k3⟩ := h.ex
  refine ⟨by simpa using h.lf, by simpa using h.lv, fun e => (gs_self (by rw [h.lv]; decide)).trans (by rw [gs_ne (by decide)]), fun e => h.old (by rwa [gs_ne (by decide)] at e), Wa, fp, hg, hb, fun e f => ?_, fun e f => ?_, fun e f => ?_⟩
  · rw [gs_ne (by decide)] at e f ⊢
    exact k1 e f
  · rw [gs_ne (by decide)] at e f ⊢
    exact k2 e f
  · rw [gs_ne (by decide)] at e f ⊢
    exact k3 e f
theorem J17.row (h : J17 p WD fs vs W) (h2 : fs.getD 2 false = true) (h3 : fs.getD 3 false = false) : ∃ fp A c, LG p fp W ∧ vs.getD 2 undef = .slice A (p.n + 1) c ∧ wordK.Lie W W.heap.size A (p.n + 1) (p.ds ++ [1000]) ∧ ∀ b ∈ blk A, ¬ fp b := by
  obtain ⟨Wa, fp, hg, hb, k1, k2, k3⟩ := h.ex
  obtain ⟨A, c, e, r⟩ := k3 h2 h3
  exact ⟨fp, A, c, hg.later hb, e, r.lie, fun b h4 h5 => by have := Row.blk_ge r b h4; have := hg.id.lt b h5; omega⟩
/-- Two slices of one row are put together. -/
structure J22 (WD : World) (n m : Nat) (xs ys : List Int) (fs : List Bool) (vs : List Value) (W : World) : Prop where
  lf : fs.length = 3
  lv : vs.length = 3
  asg : fs.getD 2 false = true → vs.getD 2 undef = vs.getD 1 undef
  since : Below WD.heap.size WD W
  k1 : fs.getD 0 false = true → fs.getD 1 false = false → ∃ A c, vs.getD 0 undef = .slice A n c ∧ wordK.Row W WD.heap.size A n c xs
  k2 : fs.getD 1 false = true → ∃ A c, vs.getD 1 undef = .slice A (n + m) c ∧ wordK.Row W WD.heap.size A (n + m) c (xs ++ ys)
theorem J22.later {n m : Nat} {xs ys : List Int} (h : J22 WD n m xs ys fs vs W) (hl : Later W W') : J22 WD n m xs ys fs vs W' :=
  ⟨h.lf, h.lv, h.asg, below_chain h.since hl, fun e f => by
    obtain ⟨A, c, e1, r⟩ := h.k1 e f
    exact ⟨A, c, e1, r.since hl⟩, fun e => by
    obtain ⟨A, c, e1, r⟩ := h.k2 e
    exact ⟨A, c, e1, r.since hl⟩⟩
theorem J22.start {n m : Nat} {xs ys : List Int} (hv : vs.length = 3) : J22 WD n m xs ys [false, false, false] vs WD := ⟨rfl, hv, fun e => (by cases e), Below.refl _ _, fun e => (by cases e), fun e => (by cases e)⟩
theorem J22.app1 {n m : Nat} {xs ys : List Int} (h : J22 WD n m xs ys fs vs W) (hn : n ≤ 4000) (A' : Option Addr) (c' : Nat) (hX : wordK.Lie WD WD.heap.size A' n xs) (h1 : fs.getD 1 false = false) : ∃ A c W', (Builtin.append_ #[wordK.L, wordK.L] wordK.L #[.slice none 0 0, .slice A' n c']).run Try.prog W = .ok (.slice A n c) W' ∧ J22 WD n m xs ys (fs.set 0 true) (vs.set 0 (.slice A n c)) W' := by
  have RN : RestK wordK (fun _ => False) W W.heap.size none 0 0 [] := ⟨Kind.Row.none_, fun b hb => by cases hb⟩
  obtain ⟨A, c, W', hr, hR, hT⟩ := RN.append_all (A' := A') (c' := c') (hX.since h.since) (Nat.le_refl _) (fun b h => h.elim) (by omega)
  rw [Nat.zero_add, List.nil_append] at hR
  rw [Nat.zero_add] at hr
  have hB : Below W.heap.size W W' := hT.below (fun b hb => by cases hb) (Nat.le_refl _)
  refine ⟨A, c, W', hr, by simpa using h.lf, by simpa using h.lv, fun e => (gs_ne (by decide)).trans ((h.asg (by rwa [gs_ne (by decide)] at e)).trans (gs_ne (by decide)).symm), below_chain h.since hB, fun _ _ => ⟨A, c, gs_self (by rw [h.lv]; decide), hR.row.elder h.since.size⟩, fun e => ?_⟩
  rw [gs_ne (by decide), h1] at e; cases e
theorem J22.app2 {n m : Nat} {xs ys : List Int} (h : J22 WD n m xs ys fs vs W) (hn : n + m ≤ 8000) (A' : Option Addr) (c' : Nat) (hX : wordK.Lie WD WD.heap.size A' m ys) (h0 : fs.getD 0 false = true) (h1 : fs.getD 1 false = false) (h2 : fs.getD 2 false = false) : ∃ A1 c1 A c W', vs.getD 0 undef = .slice A1 n c1 ∧ (Builtin.append_ #[wordK.L, wordK.L] wordK.L #[.slice A1 n c1, .slice A' m c']).run Try.prog W = .ok (.slice A (n + m) c) W' ∧ J22 WD n m xs ys (fs.set 1 true) (vs.set 1 (.slice A (n + m) c)) W' := by
  obtain ⟨A1, c1, e1, r1⟩ := h.k1 h0 h1
  have RN : RestK wordK (fun _ => False) W WD.heap.size A1 n c1 xs := ⟨r1, fun b _ h => h⟩
  obtain ⟨A, c, W', hr, hR, hT⟩ := RN.append_all (A' := A') (c' := c') (hX.since h.since) h.since.size (fun b h => h.elim) hn
  refine ⟨A1, c1, A, c, W', e1, hr, by simpa using h.lf, by simpa using h.lv, fun e => (by rw [gs_ne (by decide), h2] at e; cases e), Turn.chain h.since hT (fun b h3 => Row.blk_ge r1 b h3) h.since.size, fun _ e => ?_, fun _ => ⟨A, c, gs_self (by rw [h.lv]; decide), hR.row⟩⟩
  rw [gs_self (by rw [h.lf]; decide)] at e; cases e
theorem J22.set_ {n m : Nat} {xs ys : List Int} (h : J22 WD n m xs ys fs vs W) : J22 WD n m xs ys (fs.set 2 true) (vs.set 2 (vs.getD 1 undef)) W := by
  refine ⟨by simpa using h.lf, by simpa using h.lv, fun _ => (gs_self (by rw [h.lv]; decide)).trans (gs_ne (by decide)).symm, h.since, fun e f => ?_, fun e => ?_⟩
  · rw [gs_ne (by decide)] at e f ⊢
    exact h.k1 e f
  · rw [gs_ne (by decide)] at e ⊢
    exact h.k2 e
/-- One element of a row, as a slice. -/
def midA (A : Option Addr) (c q : Nat) : Option Addr := if c = q then A else A.map (·.add (q * wordK.k))
theorem mid_run (A : Option Addr) (n c q : Nat) (hq : q < n) (hc : n ≤ c) (W : World) : (Instr.slice wordK.L (.slice A n c) (some (.int .i64 (q : Int))) (some (.int .i64 ((q + 1 : Nat) : Int))) none).run Try.prog W = .ok (.slice (midA A c q) 1 (c - q)) W := by
  have h := wordK.slice_mid A n c q (q + 1) (Nat.le_succ q) (by omega) W
  rw [show q + 1 - q = 1 by omega] at h
  exact h
theorem mid_lie {B n c q : Nat} {A : Option Addr} {xs : List Int} (h : wordK.Lie W B A n xs) (hq : q < n) (hc : n ≤ c) : wordK.Lie W B (midA A c q) 1 [xs.getD q 0] := by
  have h1 := h.mid (lo := q) (hi := q + 1) (Nat.le_succ q) hq hc
  rw [show q + 1 - q = 1 by omega] at h1
  refine h1.same ?_
  have hl : q < xs.length := by rw [h.len]; exact hq
  rw [List.drop_eq_getElem_cons hl, List.take_succ_cons, List.take_zero, List.getD_eq_getElem?_getD, List.getElem?_eq_getElem hl]
  rfl
theorem mid_blk {c q : Nat} {A : Option Addr} {b : Nat} (h : b ∈ blk (midA A c q)) : b ∈ blk A := by
  unfold midA at h
  split at h
  · exact h
  · cases A with
    | none => exact h
    | some a => simp only [Option.map_some, blk] at h ⊢; rw [addr_block] at h; exact h
/-- Lists are taken, and all addresses told. -/
structure J24 (p : LP) (m : Nat) (fs : List Bool) (vs : List Value) (W : World) : Prop where
  lf : fs.length = 1
  lv : vs.length = 1
  ground : ∃ fp, LG p fp W
  told : fs.getD 0 false = true → ∃ A c, vs.getD 0 undef = .slice A m c
theorem J24.later {m : Nat} (h : J24 p m fs vs W) (hl : Later W W') : J24 p m fs vs W' := by
  obtain ⟨fp, hg⟩ := h.ground
  exact ⟨h.lf, h.lv, ⟨fp, hg.later hl⟩, h.told⟩
theorem J24.start {m : Nat} (h : LG p fp W) (hv : vs.length = 1) : J24 p m [false] vs W := ⟨rfl, hv, ⟨fp, h⟩, fun e => (by cases e)⟩
theorem J24.step {m : Nat} (h : J24 p m fs vs W) (hg : LG p fp' W') : J24 p m fs vs W' := ⟨h.lf, h.lv, ⟨fp', hg⟩, h.told⟩
theorem J24.addrs {m c : Nat} {A : Option Addr} (h : J24 p m fs vs W) (hl : Later W W') : J24 p m (fs.set 0 true) (vs.set 0 (.slice A m c)) W' := by
  obtain ⟨fp, hg⟩ := h.ground
  exact ⟨by simpa using h.lf, by simpa using h.lv, ⟨fp, hg.later hl⟩, fun _ => ⟨A, c, gs_self (by rw [h.lv]; decide)⟩⟩
end
end Go.Proofs.Ytfidamiomnohcaa
