/- The document's own disk: New. Conditions: the list's cells. -/
import Derived.Test.YtfhfjfgajbgdcaaRefDisk5
import Derived.Test.YtfhfjfgajbgdcaaMade
import Derived.Test.YtfhfjfgajbgdcaaKindMade
import Derived.Test.YtfhfjfgajbgdcaaTail
set_option linter.unusedVariables false
set_option linter.unusedSimpArgs false
namespace Go.Proofs.Ytfhfjfgajbgdcaa
open Go.RowKit

def inB (n : Nat) (b : Int) : Bool := decide (0 ≤ b ∧ b < (n : Int))
/-- Which are broken, so many of the list looked at. -/
def markB (n : Nat) (broken : List Int) : Nat → List Bool
  | 0 => List.replicate n false
  | j + 1 => if inB n (broken.getD j 0) = true then (markB n broken j).set (broken.getD j 0).toNat true else markB n broken j
def freshD (n z : Nat) (broken : List Int) : RD := ⟨List.replicate n (List.replicate z 0), [], markB n broken broken.length, z⟩
def mayD (n z : Int) : Bool := decide (1 ≤ n ∧ n ≤ 256 ∧ 128 ≤ z ∧ z ≤ 256)
theorem markB_len (n : Nat) (broken : List Int) : ∀ j, (markB n broken j).length = n
  | 0 => List.length_replicate ..
  | j + 1 => by
    unfold markB
    split
    · rw [List.length_set]; exact markB_len n broken j
    · exact markB_len n broken j
theorem slice_made : ∃ i z, Try.prog.info? boolK.T = some i ∧ i.zero = some z ∧ i.size = boolK.k ∧ i.bytes ≤ 1000 ∧ z.cells = (boolK.cv boolK.dflt).toArray := by
  obtain ⟨i0, hi, hz0, hz1, hz2⟩ := info_parts infoB
  exact ⟨i0, _, hi, hz0, hz1, by rw [hz2]; omega, rfl⟩
/-- What stands while it is made. -/
structure RNew (w : World) (base g i n z : Nat) (AF : Option Addr) (cF : Nat) (vF : List SV) (AB : Option Addr) (cB : Nat) (B : List Bool) : Prop where
  base_le : base ≤ g
  row : w.heap[g]? = some (.cells #[.slice AF i cF, .slice none 0 0, .slice AB n cB, .int .i64 (z : Int)] 68 (0, 0))
  f : sliceK.Row w base AF i cF vF
  fb : ∀ k, k < i → (vF.getD k SV.zero).n = z ∧ Own w base (vF.getD k SV.zero).a z (vF.getD k SV.zero).c (List.replicate z 0)
  br : boolK.Row w base AB n cB B
section
variable {w w' : World} {base g i n z : Nat} {AF AB : Option Addr} {cF cB : Nat} {vF : List SV} {B : List Bool}
theorem RNew.lt (h : RNew w base g i n z AF cF vF AB cB B) : g < w.heap.size := (Array.getElem?_eq_some_iff.1 h.row).1
theorem RNew.since (h : RNew w base g i n z AF cF vF AB cB B) (hb : Below w.heap.size w w') : RNew w' base g i n z AF cF vF AB cB B :=
  ⟨h.base_le, (hb.block g h.lt).trans h.row, h.f.since hb, fun k hk => ⟨(h.fb k hk).1, (h.fb k hk).2.since hb⟩, h.br.since hb⟩
theorem RNew.c0 (h : RNew w base g i n z AF cF vF AB cB B) : w.cell? ⟨g, 0, none⟩ = some (.slice AF i cF) := by rw [cell_of_row _ _ _ _ _ _ h.row]; rfl
theorem RNew.c2 (h : RNew w base g i n z AF cF vF AB cB B) : w.cell? ⟨g, 2, none⟩ = some (.slice AB n cB) := by rw [cell_of_row _ _ _ _ _ _ h.row]; rfl
theorem RNew.free (h : RNew w base g i n z AF cF vF AB cB B) (k : Nat) : w.frozen? ⟨g, k, none⟩ = false := by simp [World.frozen?, h.row]
/-- A sector more is appended: not stored yet. -/
structure RApp (w : World) (base g i n z : Nat) (AF : Option Addr) (cF : Nat) (A2 : Option Addr) (c2 : Nat) (vF : List SV) (AB : Option Addr) (cB : Nat) (B : List Bool) : Prop where
  base_le : base ≤ g
  row : w.heap[g]? = some (.cells #[.slice AF i cF, .slice none 0 0, .slice AB n cB, .int .i64 (z : Int)] 68 (0, 0))
  f : sliceK.Row w base A2 (i + 1) c2 vF
  fb : ∀ k, k < i + 1 → (vF.getD k SV.zero).n = z ∧ Own w base (vF.getD k SV.zero).a z (vF.getD k SV.zero).c (List.replicate z 0)
  br : boolK.Row w base AB n cB B
theorem RApp.since {A2 : Option Addr} {c2 : Nat} (h : RApp w base g i n z AF cF A2 c2 vF AB cB B) (hb : Below w.heap.size w w') : RApp w' base g i n z AF cF A2 c2 vF AB cB B :=
  ⟨h.base_le, (hb.block g (Array.getElem?_eq_some_iff.1 h.row).1).trans h.row, h.f.since hb, fun k hk => ⟨(h.fb k hk).1, (h.fb k hk).2.since hb⟩, h.br.since hb⟩
theorem RNew.app (h : RNew w base g i n z AF cF vF AB cB B) {A2 : Option Addr} {c2 : Nat} {v : SV} (hf : sliceK.Row w' base A2 (i + 1) c2 (vF ++ [v])) (hg : w.grownBy w' (Value.slice AF i cF).ownBlock) (hv : v.n = z) (ho : Own w base v.a z v.c (List.replicate z 0)) :
    RApp w' base g i n z AF cF A2 c2 (vF ++ [v]) AB cB B := by
  have hk : ∀ b, b < w.heap.size → (∀ cur, w.heap[b]? ≠ some (.cells cur sliceK.T (0, 0))) → w'.heap[b]? = w.heap[b]? := fun b hb ht => hg.block b hb fun e => by
    have hm : b ∈ blk AF := by
      cases AF with
      | none => cases e
      | some a => simp [blk]; simpa [Value.ownBlock] using e
    obtain ⟨cur, hc⟩ := Row.typed h.f b hm
    exact ht cur hc
  have hown : ∀ {A : Option Addr} {m c : Nat} {bs : List Nat}, Own w base A m c bs → Own w' base A m c bs := fun {A m c bs} ho => ho.at_block fun b hb => hk b (ho.blk_lt b hb) fun cur e => by
    obtain ⟨c2, hc2⟩ := ho.typed b hb
    exact absurd (other_type hc2 e) (by rw [sliceK_T]; decide)
  refine ⟨h.base_le, (hk g h.lt fun cur e => absurd (other_type h.row e) (by rw [sliceK_T]; decide)).trans h.row, hf, fun k hk' => ?_, Row.at_block h.br fun b hb => hk b (Row.blk_lt h.br b hb) fun cur e => ?_⟩
  · rw [getD_snoc, h.f.len]
    by_cases e : k = i
    · rw [if_pos e]; exact ⟨hv, hown ho⟩
    · rw [if_neg e]; exact ⟨(h.fb k (by omega)).1, hown (h.fb k (by omega)).2⟩
  · obtain ⟨c2, hc2⟩ := Row.typed h.br b hb
    exact absurd (other_type hc2 e) (by rw [sliceK_T, boolK_T]; decide)
theorem RApp.put {A2 : Option Addr} {c2 : Nat} (h : RApp w base g i n z AF cF A2 c2 vF AB cB B) : RNew (w.setCell ⟨g, 0, none⟩ (.slice A2 (i + 1) c2)) base g (i + 1) n z A2 c2 vF AB cB B := by
  have hk : ∀ b, b ≠ g → (w.setCell ⟨g, 0, none⟩ (.slice A2 (i + 1) c2)).heap[b]? = w.heap[b]? := fun b hb => setCell_heap w g 0 b _ hb
  have hne : ∀ {b : Nat} {cur : Array Value} {T : TypeId}, w.heap[b]? = some (.cells cur T (0, 0)) → T ≠ 68 → b ≠ g := fun {b cur T} h1 h2 e => by
    subst e
    exact h2 (other_type h1 h.row)
  refine ⟨h.base_le, ?_, Row.at_block h.f fun b hb => ?_, fun k hk' => ⟨(h.fb k hk').1, (h.fb k hk').2.at_block fun b hb => ?_⟩, Row.at_block h.br fun b hb => ?_⟩
  · simp [World.setCell, Array.getElem?_modify, h.row]
  · obtain ⟨cur, hc⟩ := Row.typed h.f b hb
    exact hk b (hne hc (by rw [sliceK_T]; decide))
  · obtain ⟨cur, hc⟩ := (h.fb k hk').2.typed b hb
    exact hk b (hne hc (by decide))
  · obtain ⟨cur, hc⟩ := Row.typed h.br b hb
    exact hk b (hne hc (by rw [boolK_T]; decide))
/-- One more is broken. -/
theorem RNew.mark {bB : Nat} (h : RNew w base g i n z AF cF vF (some ⟨bB, 0, none⟩) cB B) {k : Nat} (hk : k < n) : RNew (w.setCell ⟨bB, k, none⟩ (.bool true)) base g i n z AF cF vF (some ⟨bB, 0, none⟩) cB (B.set k true) := by
  obtain ⟨cur0, hcur0⟩ := Row.typed h.br bB (by simp [blk])
  have hb : ∀ b, b ≠ bB → (w.setCell ⟨bB, k, none⟩ (.bool true)).heap[b]? = w.heap[b]? := fun b hb => setCell_heap w bB k b _ hb
  have hne : ∀ {b : Nat} {cur : Array Value} {T : TypeId}, w.heap[b]? = some (.cells cur T (0, 0)) → T ≠ boolK.T → b ≠ bB := fun {b cur T} h1 h2 e => by
    subst e
    exact h2 (other_type h1 hcur0)
  refine ⟨h.base_le, (hb g (hne h.row (by rw [boolK_T]; decide))).trans h.row, Row.at_block h.f fun b hb' => ?_, fun k hk' => ⟨(h.fb k hk').1, (h.fb k hk').2.at_block fun b hb' => ?_⟩, ?_⟩
  · obtain ⟨cur, hc⟩ := Row.typed h.f b hb'
    exact hb b (hne hc (by rw [sliceK_T, boolK_T]; decide))
  · obtain ⟨cur, hc⟩ := (h.fb k hk').2.typed b hb'
    exact hb b (hne hc (by rw [boolK_T]; decide))
  · have := h.br.put (i := k) (r := 0) hk (by decide) (.bool true) true rfl trivial
    rwa [show k * boolK.k + 0 = k from Nat.mul_one k] at this
theorem RNew.all (h : RNew w base g n n z AF cF vF AB cB B) (hn : n ≤ 256) (hz : z ≤ 256) (hB : B.length = n) : RefAt w base (fun b => base ≤ b ∧ b < w.heap.size) g ⟨List.replicate n (List.replicate z 0), [], B, z⟩ := by
  have hg : ∀ k, k < n → (List.replicate n (List.replicate z 0)).getD k [] = List.replicate z 0 := fun k hk => by rw [List.getD_eq_getElem?_getD, List.getElem?_replicate, if_pos hk]; rfl
  have hR : RDisk w base g ⟨List.replicate n (List.replicate z 0), [], B, z⟩ ⟨AF, cF, vF, none, 0, [], AB, cB⟩ := by
    refine ⟨h.base_le, ?_, ?_, fun k hk => ?_, Kind.Row.none_, fun k hk => absurd hk (Nat.not_lt_zero k), ?_, ?_, ?_, Nat.zero_le _, hz, fun k => ?_, fun k => ?_, fun k hk => absurd hk (Nat.not_lt_zero k)⟩
    · show w.heap[g]? = some (.cells #[.slice AF (List.replicate n _).length cF, .slice none 0 0, .slice AB B.length cB, .int .i64 (z : Int)] _ _)
      rw [List.length_replicate, hB]; exact h.row
    · show sliceK.Row w base AF (List.replicate n _).length cF vF
      rw [List.length_replicate]; exact h.f
    · have hk' : k < n := by have : k < (List.replicate n (List.replicate z 0)).length := hk; rwa [List.length_replicate] at this
      show Own w base (vF.getD k SV.zero).a (vF.getD k SV.zero).n (vF.getD k SV.zero).c ((List.replicate n (List.replicate z 0)).getD k [])
      rw [hg k hk', (h.fb k hk').1]; exact (h.fb k hk').2
    · show boolK.Row w base AB B.length cB B
      rw [hB]; exact h.br
    · show (List.replicate n _).length = B.length
      rw [List.length_replicate, hB]
    · show (List.replicate n _).length ≤ 256
      rw [List.length_replicate]; exact hn
    · by_cases hk : k < n
      · show ((List.replicate n (List.replicate z 0)).getD k []).length ≤ 256
        rw [hg k hk, List.length_replicate]; exact hz
      · show ((List.replicate n (List.replicate z 0)).getD k []).length ≤ 256
        rw [List.getD_eq_getElem?_getD, List.getElem?_eq_none (by rw [List.length_replicate]; omega)]; exact Nat.zero_le _
    · exact Nat.zero_le _
  have hl := hR.in_lt
  refine ⟨⟨_, hR, ⟨fun b hb => ⟨Row.blk_ge h.f b hb, hl.f b hb⟩, fun v hv b hb => ⟨?_, hl.vf v hv b hb⟩, fun b hb => (by cases hb), fun v hv => (by cases hv), fun b hb => ⟨Row.blk_ge h.br b hb, hl.b b hb⟩⟩⟩, ⟨h.base_le, h.lt⟩, fun b hb => hb.1, fun b hb => hb.2⟩
  obtain ⟨k, hk, e⟩ := mem_getD hv SV.zero
  rw [← e] at hb
  exact (h.fb k (by rw [h.f.len] at hk; exact hk)).2.blk_ge b hb
end
theorem run_disk_field0 (g : Nat) (w : World) : (Instr.fieldAt 68 (.pointer (some ⟨g, 0, none⟩)) 0).run Try.prog w = .ok (.pointer (some ⟨g, 0, none⟩)) w := by go_simp
theorem run_disk_load (p : Addr) (A : Option Addr) (n c : Nat) (w : World) (hc : w.cell? p = some (.slice A n c)) : (Instr.loadAt 65 (.pointer (some p))).run Try.prog w = .ok (.slice A n c) w := by go_simp
theorem run_disk_store (p : Addr) (v u : Value) (A : Option Addr) (n c : Nat) (hv : v = .slice A n c) (w : World) (hc : w.cell? p = some u) (hf : w.frozen? p = false) : (Instr.storeAt 65 (.pointer (some p)) v).run Try.prog w = .ok () (w.setCell p v) := by
  subst hv
  go_simp
/-- One sector made, in a new row. -/
def OneS (base z : Nat) (v : Value) (W : World) : Prop := ∃ b A c, v = .slice (some ⟨b, 0, none⟩) 1 1 ∧ sliceK.Lie W W.heap.size (some ⟨b, 0, none⟩) 1 [(⟨A, z, c⟩ : SV)] ∧ Own W base A z c (List.replicate z 0)
theorem oneS_since (base z : Nat) (v : Value) (w w' : World) (h : OneS base z v w) (hb : Later w w') : OneS base z v w' := by
  obtain ⟨b, A, c, e, h1, h2⟩ := h
  exact ⟨b, A, c, e, h1.since hb, h2.since hb⟩
def AppS (w0 : World) (g i n z : Nat) (AF : Option Addr) (cF : Nat) (AB : Option Addr) (cB : Nat) (B : List Bool) (v : Value) (W : World) : Prop := ∃ A2 c2 vF2, v = .slice A2 (i + 1) c2 ∧ RApp W w0.heap.size g i n z AF cF A2 c2 vF2 AB cB B ∧ Below w0.heap.size w0 W
theorem appS_since (w0 : World) (g i n z : Nat) (AF : Option Addr) (cF : Nat) (AB : Option Addr) (cB : Nat) (B : List Bool) (v : Value) (w w' : World) (h : AppS w0 g i n z AF cF AB cB B v w) (hb : Later w w') : AppS w0 g i n z AF cF AB cB B v w' := by
  obtain ⟨A2, c2, vF2, e, h1, h2⟩ := h
  exact ⟨A2, c2, vF2, e, h1.since hb, below_chain h2 hb⟩
def EndS (w0 : World) (g i n z : Nat) (AB : Option Addr) (cB : Nat) (B : List Bool) (v : Value) (W : World) : Prop := ∃ A2 c2 vF2, RNew W w0.heap.size g (i + 1) n z A2 c2 vF2 AB cB B ∧ Below w0.heap.size w0 W
theorem endS_since (w0 : World) (g i n z : Nat) (AB : Option Addr) (cB : Nat) (B : List Bool) (v : Value) (w w' : World) (h : EndS w0 g i n z AB cB B v w) (hb : Later w w') : EndS w0 g i n z AB cB B v w' := by
  obtain ⟨A2, c2, vF2, h1, h2⟩ := h
  exact ⟨A2, c2, vF2, h1.since hb, below_chain h2 hb⟩
def NewR (w : World) (o : Option RD) (e : Ending) (w' : World) : Prop := match o with
  | none => e = .returned (.pointer none) ∧ w = w'
  | some s => ∃ g fp, e = .returned (.pointer (some ⟨g, 0, none⟩)) ∧ RefAt w' w.heap.size fp g s ∧ Below w.heap.size w w'
theorem run_build_s1 (A : Option Addr) (n c : Nat) (W : World) : (Instr.buildSlice 65 1 #[(0, .slice A n c)]).run Try.prog W = .ok (.slice (some ⟨W.heap.size, 0, none⟩) 1 1) (W.alloc (.cells #[.slice A n c] 34)) := by go_simp
theorem run_box_disk (AB : Option Addr) (n c : Nat) (z : Int) (W : World) : True := trivial
set_option maxHeartbeats 8000000 in
set_option maxRecDepth 20000 in
theorem refnew_any (x y : Int) (AX : Option Addr) (nx cx : Nat) (xs : List Int) (w : World) (hnx : nx ≤ 9223372036854775807) (hX : intK.Lie w w.heap.size AX nx xs) :
    Calls Try.prog 9 #[.int .i64 x, .int .i64 y, .slice AX nx cx] w (NewR w (if mayD x y = true then some (freshD x.toNat y.toNat xs) else none)) := by
  have HX := Lib.hid hX
  have HXL : Hid (xs.length = nx) := hX.len
  clear hX
  by_cases h1 : x < 1
  · rw [if_neg (show ¬ mayD x y = true by unfold mayD; simp; omega)]
    go_enter Try.func9, Try.ntmps9
    go_wp2_with fail
    go_ret
    exact ⟨rfl, rfl⟩
  by_cases h2 : 256 < x
  · rw [if_neg (show ¬ mayD x y = true by unfold mayD; simp; omega)]
    go_enter Try.func9, Try.ntmps9
    go_wp2_with fail
    go_ret
    exact ⟨rfl, rfl⟩
  by_cases h3 : y < 128
  · rw [if_neg (show ¬ mayD x y = true by unfold mayD; simp; omega)]
    go_enter Try.func9, Try.ntmps9
    go_wp2_with fail
    go_ret
    exact ⟨rfl, rfl⟩
  by_cases h4 : 256 < y
  · rw [if_neg (show ¬ mayD x y = true by unfold mayD; simp; omega)]
    go_enter Try.func9, Try.ntmps9
    go_wp2_with fail
    go_ret
    exact ⟨rfl, rfl⟩
  rw [if_pos (show mayD x y = true from decide_eq_true (by omega))]
  obtain ⟨n, rfl⟩ : ∃ n : Nat, x = (n : Int) := ⟨x.toNat, by omega⟩
  obtain ⟨z, rfl⟩ : ∃ z : Nat, y = (z : Int) := ⟨y.toNat, by omega⟩
  rw [Int.toNat_natCast, Int.toNat_natCast]
  have hn : n ≤ 256 := by omega
  have hz : z ≤ 256 := by omega
  have hn1 : 1 ≤ n := by omega
  obtain ⟨W1, hr1, hb1, ho1⟩ := Kind.made boolK slice_made n (n : Int) rfl (by omega) w w.heap.size (Nat.le_refl _)
  have hr1' : (Instr.makeSlice 29 (.int .i64 (n : Int)) (.int .i64 (n : Int))).run Try.prog w = .ok (.slice (some ⟨w.heap.size, 0, none⟩) n n) W1 := hr1
  have HB1 := Lib.hid hb1
  have HO1 := Lib.hid ho1
  clear hr1 hb1 ho1
  have R0 : Hid (RNew (W1.alloc (.cells #[.slice none 0 0, .slice none 0 0, .slice (some ⟨w.heap.size, 0, none⟩) n n, .int .i64 (z : Int)] 68)) w.heap.size W1.heap.size 0 n z none 0 [] (some ⟨w.heap.size, 0, none⟩) n (markB n xs 0)) :=
    ⟨HB1.out.size, heap_alloc_new W1 _, Kind.Row.none_, fun k hk => absurd hk (Nat.not_lt_zero k), HO1.out.since (later_alloc _ _)⟩
  have S0 := Lib.hid (since_alloc HB1.out (.cells #[.slice none 0 0, .slice none 0 0, .slice (some ⟨w.heap.size, 0, none⟩) n n, .int .i64 (z : Int)] 68))
  go_enter Try.func9, Try.ntmps9
  go_wp2_with fail
  obtain ⟨g, HG⟩ : ∃ g, Hid (W1.heap.size = g) := ⟨_, rfl⟩
  rw [HG.out] at R0 ⊢
  obtain ⟨bB, HBB⟩ : ∃ bB, Hid (w.heap.size = bB) := ⟨_, rfl⟩
  obtain ⟨AB, HAB⟩ : ∃ AB : Option Addr, Hid (some ⟨w.heap.size, 0, none⟩ = AB) := ⟨_, rfl⟩
  go_loopw [8] (fun t8 wr => ∃ (i : Nat) (AF : Option Addr) (cF : Nat) (vF : List SV), t8 = .int .i64 i ∧ i ≤ n ∧ Hid (RNew wr w.heap.size g i n z AF cF vF (some ⟨w.heap.size, 0, none⟩) n (markB n xs 0)) ∧ Hid (Below w.heap.size w wr)) (fun t8 _ => n - (intOf t8).toNat)
  case atStart => exact ⟨0, none, 0, [], rfl, Nat.zero_le _, R0, S0⟩
  clear R0 S0
  case round =>
    obtain ⟨Wa, rfl⟩ : ∃ Wa, Wa = wr := ⟨_, rfl⟩
    obtain ⟨i, AF, cF, vF, rfl, hi, HR, HB⟩ := hrel
    have i0 : (0 : Int) ≤ (i : Int) := by omega
    by_cases hlt : i < n
    · have i1 : (i : Int) < (n : Int) := by omega
      obtain ⟨B, HBL⟩ : ∃ B, Hid (markB n xs 0 = B) := ⟨_, rfl⟩
      obtain ⟨cB, HCB⟩ : ∃ cB, Hid (n = cB) := ⟨_, rfl⟩
      rw [HBL.out, HAB.out] at HR
      have HR' : Hid (RNew Wa w.heap.size g i n z AF cF vF AB cB B) := by rw [← HCB.out]; exact HR.out
      clear HR
      have HR := HR'
      clear HR'
      go_wp2_with fail
      obtain ⟨WD, HWD⟩ : ∃ W, Hid (W = Wa.drew) := ⟨_, rfl⟩
      have HDL : Hid (Later Wa WD) := by rw [HWD.out]; exact (Below.refl _ _).drew
      refine region_of_steps4 (by kernel_rfl) (fact2Of [.is (.pointer (some ⟨g, 0, none⟩)), .is (.pointer (some ⟨g, 0, none⟩)), .is (.pointer (some ⟨g, 0, none⟩)), .is (.pointer (some ⟨g, 0, none⟩)), .is (.slice AF i cF), .is (.int .i64 (z : Int)), .own w.heap.size z (List.replicate z 0), .that (OneS w.heap.size z) (oneS_since _ _), .that (AppS w g i n z AF cF AB cB B) (appS_since _ _ _ _ _ _ _ _ _ _), .is (.pointer (some ⟨g, 0, none⟩)), .is (.pointer (some ⟨g, 0, none⟩)), .that (EndS w g i n z AB cB B) (endS_since _ _ _ _ _ _ _ _)]) (deadOf [(6, 8), (7, 8), (8, 11)]) (Turns [8, 11]) (TillAll [8, 11] WD) (by kernel_rfl)
        (fun i j v w w' hm hd hn hdd h hR => turns_stays _ _ [8, 11] [(6, 8), (7, 8), (8, 11)] (by kernel_rfl) i j v w w' hm hd hn hdd h hR) (fun listed j w w' h hl k => tillall_step h hl k) (fun listed => by rw [← HWD.out]; exact tillall_start _ _ _) ?_ ?_
      · refine Steps3.cons ?_ (Steps3.cons ?_ (Steps3.cons ?_ (Steps3.cons ?_ (Steps3.cons ?_ (Steps3.cons ?_ (Steps3.cons ?_ (Steps3.cons ?_ (Steps3.cons ?_ (Steps3.cons ?_ (Steps3.cons ?_ (Steps3.cons ?_ (Steps3.nil))))))))))))
        · intro listed a W H hw hl hd
          have t7 : a.tmps.getD 7 undef = .pointer (some ⟨g, 0, none⟩) := (H.old 7 (by kernel_rfl)).trans rfl
          exact step2_value (i := 0) rfl rfl (run_op_move rfl t7) (turns_refl _) rfl
        · intro listed a W H hw hl hd
          have t7 : a.tmps.getD 7 undef = .pointer (some ⟨g, 0, none⟩) := (H.old 7 (by kernel_rfl)).trans rfl
          exact step2_value (i := 1) rfl rfl (run_op_move rfl t7) (turns_refl _) rfl
        · intro listed a W H hw hl hd
          have t35 : a.tmps.getD 35 undef = .pointer (some ⟨g, 0, none⟩) := H.get 1 35 (by kernel_rfl) (dep_of hd 1 (by kernel_rfl)) (alive_none (by kernel_rfl))
          exact step2_value (i := 2) rfl rfl (run_op_nilCheck rfl t35) (turns_refl _) rfl
        · intro listed a W H hw hl hd
          have t36 : a.tmps.getD 36 undef = .pointer (some ⟨g, 0, none⟩) := H.get 2 36 (by kernel_rfl) (dep_of hd 2 (by kernel_rfl)) (alive_none (by kernel_rfl))
          exact step2_value (i := 3) rfl rfl (run_op_fieldAddr rfl t36 (run_disk_field0 g W)) (turns_refl _) rfl
        · intro listed a W H hw hl hd
          have t37 : a.tmps.getD 37 undef = .pointer (some ⟨g, 0, none⟩) := H.get 3 37 (by kernel_rfl) (dep_of hd 3 (by kernel_rfl)) (alive_none (by kernel_rfl))
          exact step2_value (i := 4) rfl rfl (run_op_load rfl t37 (run_disk_load _ AF i cF W (HR.out.since (later_trans _ _ _ HDL.out (hw (H.nothing 4 hl (by kernel_rfl))))).c0)) (turns_refl _) rfl
        · intro listed a W H hw hl hd
          have t1 : a.tmps.getD 1 undef = .int .i64 (z : Int) := (H.old 1 (by kernel_rfl)).trans rfl
          exact step2_value (i := 5) rfl rfl (run_op_move rfl t1) (turns_refl _) rfl
        · intro listed a W H hw hl hd
          have t39 : a.tmps.getD 39 undef = .int .i64 (z : Int) := H.get 5 39 (by kernel_rfl) (dep_of hd 5 (by kernel_rfl)) (alive_none (by kernel_rfl))
          have hWD : WD.heap.size ≤ W.heap.size := (hw (H.nothing 4 hl (by kernel_rfl))).size
          obtain ⟨W2, hr, hb, ho⟩ := made_any z (z : Int) rfl (by omega) W
          exact step2_value (i := 6) rfl rfl (run_op_makeSlice rfl t39 t39 hr) (turns_later hb) ⟨_, _, rfl, ho.elder (Nat.le_trans HB.out.size (Nat.le_trans HDL.out.size hWD))⟩
        · intro listed a W H hw hl hd
          obtain ⟨A40, q40, t40, o40⟩ := H.get 6 40 (by kernel_rfl) (dep_of hd 6 (by kernel_rfl)) (alive_now (m := 8) (by kernel_rfl) (H.notyets 4 hl (by kernel_rfl)))
          exact step2_value (i := 7) rfl rfl (run_op_build1 rfl t40 (run_build_s1 A40 z q40 W)) (turns_later (later_alloc _ _)) ⟨W.heap.size, A40, q40, rfl, Kind.new1 (K := sliceK) W ⟨A40, z, q40⟩ trivial _ rfl, o40.since (later_alloc _ _)⟩
        · intro listed a W H hw hl hd
          have t38 : a.tmps.getD 38 undef = .slice AF i cF := H.get 4 38 (by kernel_rfl) (dep_of hd 4 (by kernel_rfl)) (alive_none (by kernel_rfl))
          have T41 : (OneS w.heap.size z) (a.tmps.getD 41 undef) W := H.get 7 41 (by kernel_rfl) (dep_of hd 7 (by kernel_rfl)) (alive_now (m := 8) (by kernel_rfl) (H.notyets 4 hl (by kernel_rfl)))
          obtain ⟨b41, A41, c41, e41, h41, o41⟩ := T41
          have hN := HR.out.since (later_trans _ _ _ HDL.out (hw (H.nothing 4 hl (by kernel_rfl))))
          have hB := below_chain HB.out (later_trans _ _ _ HDL.out (hw (H.nothing 4 hl (by kernel_rfl))))
          obtain ⟨A2, c2, W2, hr, ho, hg⟩ := Kind.append_b (K := sliceK) (c' := 1) hB.size hN.f h41 (by omega)
          exact step2_value (i := 8) rfl rfl (run_op_append rfl t38 e41 hr) (turns_here (by decide)) ⟨A2, c2, _, rfl, hN.app ho hg rfl o41, hB.grown hg hB.size (fun b hb => (hN.f.row.lt b hb).1)⟩
        · intro listed a W H hw hl hd
          have t34 : a.tmps.getD 34 undef = .pointer (some ⟨g, 0, none⟩) := H.get 0 34 (by kernel_rfl) (dep_of hd 0 (by kernel_rfl)) (alive_none (by kernel_rfl))
          exact step2_value (i := 9) rfl rfl (run_op_nilCheck rfl t34) (turns_refl _) rfl
        · intro listed a W H hw hl hd
          have t43 : a.tmps.getD 43 undef = .pointer (some ⟨g, 0, none⟩) := H.get 9 43 (by kernel_rfl) (dep_of hd 9 (by kernel_rfl)) (alive_none (by kernel_rfl))
          exact step2_value (i := 10) rfl rfl (run_op_fieldAddr rfl t43 (run_disk_field0 g W)) (turns_refl _) rfl
        · intro listed a W H hw hl hd
          have t44 : a.tmps.getD 44 undef = .pointer (some ⟨g, 0, none⟩) := H.get 10 44 (by kernel_rfl) (dep_of hd 10 (by kernel_rfl)) (alive_none (by kernel_rfl))
          have T42 : (AppS w g i n z AF cF AB cB B) (a.tmps.getD 42 undef) W := H.get 8 42 (by kernel_rfl) (dep_of hd 8 (by kernel_rfl)) (alive_now (m := 11) (by kernel_rfl) (H.notyets 4 hl (by kernel_rfl)))
          obtain ⟨A2, c2, vF2, e42, h42, b42⟩ := T42
          have hrow : W.cell? ⟨g, 0, none⟩ = some (.slice AF i cF) := by rw [cell_of_row _ _ _ _ _ _ h42.row]; rfl
          have hfro : W.frozen? ⟨g, 0, none⟩ = false := by simp [World.frozen?, h42.row]
          exact step2_done (i := 11) rfl rfl rfl (run_op_store rfl t44 e42 (run_disk_store _ _ _ A2 (i + 1) c2 rfl W hrow hfro)) (turns_here (by decide)) ⟨A2, c2, vF2, h42.put, b42.setCell h42.base_le _⟩
      · intro a WC listed hdef hsz hw hall hact
        obtain ⟨A2, c2, vF2, hr2, hb2⟩ := hall 11 _ rfl (by kernel_rfl)
        obtain ⟨u, hu⟩ : ∃ u : Nat → Value, ∀ k, a.tmps.getD k undef = u k := ⟨_, fun _ => rfl⟩
        simp only [hu] at hact
        have hact' : a = ([34, 35, 36, 37, 38, 39, 40, 41, 42, 43, 44] : List Nat).foldl (fun b k => b.put (some k) (u k)) _ := hact
        simp only [List.foldl] at hact'
        simp only [Act.put, List.setIfInBounds_toArray, List.set_cons_succ, List.set_cons_zero] at hact'
        have HAC := Lib.hid hact'
        have HR2 : Hid (RNew WC w.heap.size g (i + 1) n z A2 c2 vF2 (some ⟨w.heap.size, 0, none⟩) n (markB n xs 0)) := by rw [HBL.out, HAB.out]; rw [← HCB.out] at hr2; exact hr2
        have HB2 := Lib.hid hb2
        clear hu hact hact' hall hdef hsz hw hr2 hb2 HR HB
        rw [HAC.out]
        go_wp2_with fail
        go_roundw
        case rel => exact ⟨i + 1, A2, c2, vF2, by go_num, by omega, HR2, HB2⟩
        case measure => simp [intOf]; omega
    · obtain rfl : i = n := by omega
      go_wp2_with fail
      go_loopw [9] (fun t9 wr => ∃ (j : Nat), t9 = .int .i64 j ∧ j ≤ nx ∧ Hid (RNew wr w.heap.size g i i z AF cF vF (some ⟨w.heap.size, 0, none⟩) i (markB i xs j)) ∧ Hid (Below w.heap.size w wr)) (fun t9 _ => nx - (intOf t9).toNat)
      case atStart => exact ⟨0, rfl, Nat.zero_le _, HR, HB⟩
      clear HR HB
      case round =>
        obtain ⟨Wb, rfl⟩ : ∃ Wb, Wb = wr := ⟨_, rfl⟩
        obtain ⟨j, rfl, hj, HR, HB⟩ := hrel
        have j0 : (0 : Int) ≤ (j : Int) := by omega
        by_cases hltj : j < nx
        · have j1 : (j : Int) < (nx : Int) := by omega
          obtain ⟨ad, rfl, hblk, e3⟩ := (HX.out.since HB.out).each j hltj
          have c0 := intAt_of (show intK.At Wb (ad.add (j * 1)) (xs.getD j 0) from e3)
          obtain ⟨b, HXB⟩ : ∃ b, Hid (xs.getD j 0 = b) := ⟨_, rfl⟩
          rw [HXB.out, Nat.mul_one] at c0
          have HMK : Hid (markB i xs (j + 1) = if inB i b = true then (markB i xs j).set b.toNat true else markB i xs j) := by
            show _ = _
            rw [markB, HXB.out]
          by_cases hb0 : 0 ≤ b
          · by_cases hb1 : b < (i : Int)
            · obtain ⟨k, rfl⟩ : ∃ k : Nat, b = (k : Int) := ⟨b.toNat, by omega⟩
              have hk : k < i := by omega
              have HM2 : Hid (markB i xs (j + 1) = (markB i xs j).set k true) := by
                show _ = _
                rw [HMK.out, if_pos (show inB i (k : Int) = true from decide_eq_true ⟨hb0, hb1⟩), Int.toNat_natCast]
              have HR2 := Lib.hid (HR.out.mark hk)
              rw [← HM2.out] at HR2
              have hc2 := HR.out.c2
              have hfr : Wb.frozen? ⟨w.heap.size, k, none⟩ = false := HR.out.br.row.frozenAt k
              obtain ⟨adk, e1, e2, e3'⟩ := HR.out.br.lie.each k hk
              obtain rfl := Option.some.inj e1
              have hck := boolK_at e3'
              rw [show k * boolK.k = k from Nat.mul_one k, add_zero_addr] at hck
              have HB2 : Hid (Below w.heap.size w (Wb.setCell ⟨w.heap.size, k, none⟩ (.bool true))) := HB.out.setCell (Nat.le_refl _) _
              clear e3 e3' HMK HM2 HR
              go_wp2_with fail
              go_region
              obtain ⟨W9, HW9⟩ : ∃ W9, Hid (W9 = Wb.setCell ⟨w.heap.size, k, none⟩ (.bool true)) := ⟨_, rfl⟩
              rw [← HW9.out] at HR2 HB2 ⊢
              have HR3 := Lib.hid (HR2.out.since ((Below.refl W9.heap.size W9).drew))
              have HB3 := Lib.hid (HB2.out.drew)
              go_wp2_with fail
              go_roundw
              case rel => exact ⟨j + 1, by go_num, by omega, HR3, HB3⟩
              case measure => simp [intOf]; omega
            · have HM2 : Hid (markB i xs (j + 1) = markB i xs j) := by
                show _ = _
                rw [HMK.out, if_neg (by unfold inB; simp; omega)]
              rw [← HM2.out] at HR
              go_wp2_with fail
              go_roundw
              case rel => exact ⟨j + 1, by go_num, by omega, HR, HB⟩
              case measure => simp [intOf]; omega
          · have HM2 : Hid (markB i xs (j + 1) = markB i xs j) := by
              show _ = _
              rw [HMK.out, if_neg (by unfold inB; simp; omega)]
            rw [← HM2.out] at HR
            go_wp2_with fail
            go_roundw
            case rel => exact ⟨j + 1, by go_num, by omega, HR, HB⟩
            case measure => simp [intOf]; omega
        · have HF := Lib.hid (HR.out.all hn hz (markB_len _ _ _))
          obtain rfl : j = nx := by omega
          go_wp2_with fail
          go_ret
          refine ⟨g, fun b => w.heap.size ≤ b ∧ b < Wb.heap.size, rfl, ?_, HB.out⟩
          unfold freshD
          rw [HXL.out]
          exact HF.out
end Go.Proofs.Ytfhfjfgajbgdcaa
