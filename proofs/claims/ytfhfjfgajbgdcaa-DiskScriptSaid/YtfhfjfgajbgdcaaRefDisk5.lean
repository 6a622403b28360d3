/- The document's own disk as an object apart from all else: its blocks, what each call leaves. Conditions: fewer than 1000 writes wait. -/
import Derived.Test.YtfhfjfgajbgdcaaRefDisk4
import Derived.Test.YtfhfjfgajbgdcaaMoves
set_option linter.unusedVariables false
set_option linter.unusedSimpArgs false
namespace Go.Proofs.Ytfhfjfgajbgdcaa
open Go.RowKit

structure RefAt (w : World) (base : Nat) (fp : Nat → Prop) (g : Nat) (s : RD) : Prop where
  ex : ∃ L, RDisk w base g s L ∧ L.In fp
  own : fp g
  ge : ∀ b, fp b → base ≤ b
  lt : ∀ b, fp b → b < w.heap.size
section
variable {w w' : World} {base g : Nat} {s : RD} {L : RL} {fp fq : Nat → Prop}
theorem getD_mem_lt {α : Type} {l : List α} {k : Nat} (h : k < l.length) (d : α) : l.getD k d ∈ l := by
  rw [List.getD_eq_getElem?_getD, List.getElem?_eq_getElem h]; exact List.getElem_mem h
theorem mem_getD {α : Type} {l : List α} {v : α} (h : v ∈ l) (d : α) : ∃ k, k < l.length ∧ l.getD k d = v := by
  obtain ⟨k, hk, rfl⟩ := List.mem_iff_getElem.1 h
  exact ⟨k, hk, by rw [List.getD_eq_getElem?_getD, List.getElem?_eq_getElem hk]; rfl⟩
theorem RDisk.keep (h : RDisk w base g s L) (hi : L.In fp) (hg : w'.heap[g]? = w.heap[g]?) (hb : ∀ b, fp b → w'.heap[b]? = w.heap[b]?) : RDisk w' base g s L :=
  ⟨h.base_le, hg.trans h.row, Row.at_block h.f fun b hb' => hb b (hi.f b hb'), fun k hk => (h.fb k hk).at_block fun b hb' => hb b (hi.vf _ (getD_mem_lt (by rw [h.f.len]; exact hk) _) b hb'),
    Row.at_block h.wr fun b hb' => hb b (hi.w b hb'), fun k hk => ⟨(h.wb k hk).1, (h.wb k hk).2.at_block fun b hb' => hb b (hi.vw _ (getD_mem_lt (by rw [h.wr.len]; exact hk) _) b hb')⟩,
    Row.at_block h.br fun b hb' => hb b (hi.b b hb'), h.same, h.few, h.many, h.size, h.sizes, h.sizew, h.ins⟩
theorem RDisk.in_lt (h : RDisk w base g s L) : L.In (fun b => b < w.heap.size) :=
  ⟨Row.blk_lt h.f, fun v hv b hb => by
    obtain ⟨k, hk, e⟩ := mem_getD hv SV.zero
    rw [← e] at hb
    exact (h.fb k (by rw [h.f.len] at hk; exact hk)).blk_lt b hb, Row.blk_lt h.wr, fun v hv b hb => by
    obtain ⟨k, hk, e⟩ := mem_getD hv ⟨0, SV.zero⟩
    rw [← e] at hb
    exact (h.wb k (by rw [h.wr.len] at hk; exact hk)).2.blk_lt b hb, Row.blk_lt h.br⟩
theorem RefAt.keep (h : RefAt w base fp g s) (ht : Turn fq w w') (hd : ∀ b, fq b → ¬ fp b) : RefAt w' base fp g s := by
  obtain ⟨L, h1, h2⟩ := h.ex
  have hb : ∀ b, fp b → w'.heap[b]? = w.heap[b]? := fun b hb => ht.block b (h.lt b hb) fun hq => hd b hq hb
  exact ⟨⟨L, h1.keep h2 (hb g h.own) hb, h2⟩, h.own, h.ge, fun b hb => Nat.lt_of_lt_of_le (h.lt b hb) ht.size⟩
theorem RefAt.since (h : RefAt w base fp g s) (hb : Below w.heap.size w w') : RefAt w' base fp g s := h.keep (fq := fun _ => False) (Turn.of_below hb) fun b hb => hb.elim
theorem RefAt.elder (h : RefAt w base fp g s) {base' : Nat} (hb : base' ≤ base) : RefAt w base' fp g s := by
  obtain ⟨L, h1, h2⟩ := h.ex
  exact ⟨⟨L, ⟨Nat.le_trans hb h1.base_le, h1.row, h1.f.elder hb, fun k hk => (h1.fb k hk).elder hb, h1.wr.elder hb, fun k hk => ⟨(h1.wb k hk).1, (h1.wb k hk).2.elder hb⟩, h1.br.elder hb, h1.same, h1.few, h1.many, h1.size, h1.sizes, h1.sizew, h1.ins⟩, h2⟩, h.own, fun b hf => Nat.le_trans hb (h.ge b hf), h.lt⟩
theorem RefAt.same (h : RefAt w base fp g s) {s' : RD} (e : s = s') : RefAt w base fp g s' := e ▸ h
/-- What a call leaves that turns the disk. -/
def RefLeads (w : World) (base : Nat) (fp : Nat → Prop) (g : Nat) (s' : RD) (v : Value) (e : Ending) (w' : World) : Prop := e = .returned v ∧ ∃ fp', RefAt w' base fp' g s' ∧ Moves w fp w' fp'
theorem ref_leads {s' : RD} {L' : RL} {v : Value} {e : Ending} (hR : RefAt w base fp g s) (he : e = .returned v) (h1 : RDisk w' base g s' L') (h2 : L'.In fun b => fp b ∨ w.heap.size ≤ b) (ht : Turn fp w w') : RefLeads w base fp g s' v e w' := by
  have h3 := h1.in_lt
  have hbw : base ≤ w.heap.size := Nat.le_of_lt (Nat.lt_of_le_of_lt (hR.ge g hR.own) (hR.lt g hR.own))
  refine ⟨he, fun b => fp b ∨ (w.heap.size ≤ b ∧ b < w'.heap.size), ⟨⟨L', h1, ⟨fun b hb => ?_, fun v hv b hb => ?_, fun b hb => ?_, fun v hv b hb => ?_, fun b hb => ?_⟩⟩, Or.inl hR.own, fun b hb => ?_, fun b hb => ?_⟩, ht, fun b hb => ?_⟩
  · exact (h2.f b hb).imp id fun h => ⟨h, h3.f b hb⟩
  · exact (h2.vf v hv b hb).imp id fun h => ⟨h, h3.vf v hv b hb⟩
  · exact (h2.w b hb).imp id fun h => ⟨h, h3.w b hb⟩
  · exact (h2.vw v hv b hb).imp id fun h => ⟨h, h3.vw v hv b hb⟩
  · exact (h2.b b hb).imp id fun h => ⟨h, h3.b b hb⟩
  · exact hb.elim (hR.ge b) fun h => Nat.le_trans hbw h.1
  · exact hb.elim (fun h => Nat.lt_of_lt_of_le (hR.lt b h) ht.size) fun h => h.2
  · exact hb.imp id fun h => h.1
theorem rwrite_any (x : Int) (A : Option Addr) (n c : Nat) (bs : List Nat) (hR : RefAt w base fp g s) (hm : s.W.length < 1000) (hn : n ≤ 9223372036854775807) (hA : Bytes w w.heap.size A n bs) :
    Calls Try.prog 31 #[.pointer (some ⟨g, 0, none⟩), .int .i64 x, .slice A n c] w (RefLeads w base fp g (afterWrite s x bs) (.int .i64 (writeO s x bs.length))) := by
  obtain ⟨L, h1, h2⟩ := hR.ex
  refine (refwrite_any x A n c bs g base s L w h1 hm hn hA (Nat.le_of_lt (Nat.lt_of_le_of_lt (hR.ge g hR.own) (hR.lt g hR.own)))).mono ?_
  rintro e w' ⟨he, ⟨L', h3, h4⟩, h5⟩
  exact ref_leads hR he h3.out (h4.out fp h2) (h5.out.mono fun b hb => Or.inl (by rw [hb]; exact hR.own))
theorem rcrash_any (AK : Option Addr) (nk ck : Nat) (keep : List Bool) (hR : RefAt w base fp g s) (hn : nk ≤ 9223372036854775807) (hK : boolK.Lie w w.heap.size AK nk keep) (hKf : 0 < nk → ∀ b ∈ blk AK, ¬ fp b) :
    Calls Try.prog 32 #[.pointer (some ⟨g, 0, none⟩), .slice AK nk ck] w (RefLeads w base fp g (afterCrash s keep) (.int .i64 (crashN s keep))) := by
  obtain ⟨L, h1, h2⟩ := hR.ex
  refine (refcrash_any AK nk ck keep g base s L w h1 hn hK fun h0 b hb => ⟨fun e => hKf h0 b hb (by rw [e]; exact hR.own), fun h => hKf h0 b hb (h2.f b h)⟩).mono ?_
  rintro e w' ⟨he, ⟨L', h3, h4⟩, h5⟩
  exact ref_leads hR he h3.out ((h4.out fp h2).mono fun b hb => Or.inl hb) (h5.out.mono fun b hb => Or.inl (hb.elim (fun h => by rw [h]; exact hR.own) (h2.f b)))
theorem rread_any (x : Int) (hR : RefAt w base fp g s) : Calls Try.prog 28 #[.pointer (some ⟨g, 0, none⟩), .int .i64 x] w (GotB w (readO s x)) := by
  obtain ⟨L, h1, h2⟩ := hR.ex
  exact refread_any x g base s L w h1
theorem rfirm_any (x : Int) (hR : RefAt w base fp g s) : Calls Try.prog 13 #[.pointer (some ⟨g, 0, none⟩), .int .i64 x] w (GotB w (firmO s x)) := by
  obtain ⟨L, h1, h2⟩ := hR.ex
  exact reffirm_any x g base s L w h1
theorem rwaiting_any (hR : RefAt w base fp g s) : Calls Try.prog 15 #[.pointer (some ⟨g, 0, none⟩)] w (GivesI w (s.W.map (·.1))) := by
  obtain ⟨L, h1, h2⟩ := hR.ex
  refine refwaiting_any g base s L w h1 fun k hk => ?_
  have h3 := h1.ins k hk
  have h4 := h1.few
  exact ⟨by have : 0 ≤ (waitAt s.W k).1 := h3.1; omega, by have : (waitAt s.W k).1 < (s.F.length : Int) := h3.2; omega⟩
end
end Go.Proofs.Ytfhfjfgajbgdcaa
