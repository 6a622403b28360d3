/- Which notes may be: the contracts of the project's May and the document's. No conditions. -/
import Derived.Test.YtaocppgekinocaaOwn
import Derived.Test.YtaocppgekinocaaNoteMath
set_option linter.unusedVariables false
set_option linter.unusedSimpArgs false
namespace Go.Proofs.Ytaocppgekinocaa
open Go.RowKit

/-- A note, as its cells have it. -/
structure V where
  gone : Bool
  addr : Int
  page : Int
  dirty : Bool
  seq : Int
def noteV (v : V) : Value := .agg #[.bool v.gone, .int .u64 v.addr, .int .i64 v.page, .bool v.dirty, .int .i64 v.seq]
def okB (v : V) : Bool := decide (1 ≤ v.seq ∧ v.seq ≤ 1099511627775 ∧ ((v.gone = true ∧ v.page = 0 ∧ v.dirty = false) ∨ (v.gone = false ∧ 0 ≤ v.page ∧ v.page ≤ 255)))
theorem okB_yes {v : V} (h : 1 ≤ v.seq ∧ v.seq ≤ 1099511627775 ∧ ((v.gone = true ∧ v.page = 0 ∧ v.dirty = false) ∨ (v.gone = false ∧ 0 ≤ v.page ∧ v.page ≤ 255))) : okB v = true := decide_eq_true h
theorem okB_no {v : V} (h : ¬(1 ≤ v.seq ∧ v.seq ≤ 1099511627775 ∧ ((v.gone = true ∧ v.page = 0 ∧ v.dirty = false) ∨ (v.gone = false ∧ 0 ≤ v.page ∧ v.page ≤ 255)))) : okB v = false := decide_eq_false h
theorem okB_out {v : V} (h : okB v = true) : 1 ≤ v.seq ∧ v.seq ≤ 1099511627775 ∧ ((v.gone = true ∧ v.page = 0 ∧ v.dirty = false) ∨ (v.gone = false ∧ 0 ≤ v.page ∧ v.page ≤ 255)) := of_decide_eq_true h
/-- What a call that answers a bool leaves. -/
def SaysB (w : World) (b : Bool) (e : Ending) (w' : World) : Prop := e = .returned (.bool b) ∧ Hid (Below w.heap.size w w')
theorem SaysB.same {w : World} {b b' : Bool} {e : Ending} {w' : World} (h : SaysB w b e w') (hb : b = b') : SaysB w b' e w' := hb ▸ h
/-- The value, in one form of two: by whether it is gone. -/
theorem okB_gone {a p : Int} {d : Bool} {s : Int} (h0 : 1 ≤ s) (h1 : s ≤ 1099511627775) : okB ⟨true, a, p, d, s⟩ = (if p = 0 then !d else false) := by
  by_cases hp : p = 0
  · rw [if_pos hp]
    cases d
    · exact okB_yes ⟨h0, h1, Or.inl ⟨rfl, hp, rfl⟩⟩
    · exact okB_no fun h => by rcases h.2.2 with ⟨_, _, e⟩ | ⟨e, _⟩ <;> cases e
  · rw [if_neg hp]
    exact okB_no fun h => by
      rcases h.2.2 with ⟨_, e, _⟩ | ⟨e, _⟩
      · exact hp e
      · cases e
theorem okB_here {a p : Int} {d : Bool} {s : Int} (h0 : 1 ≤ s) (h1 : s ≤ 1099511627775) : okB ⟨false, a, p, d, s⟩ = decide (0 ≤ p ∧ p ≤ 255) := by
  by_cases hp : 0 ≤ p ∧ p ≤ 255
  · rw [decide_eq_true hp]; exact okB_yes ⟨h0, h1, Or.inr ⟨rfl, hp.1, hp.2⟩⟩
  · rw [decide_eq_false hp]
    exact okB_no fun h => by
      rcases h.2.2 with ⟨e, _⟩ | ⟨_, e⟩
      · cases e
      · exact hp e
theorem okB_seq {g : Bool} {a p : Int} {d : Bool} {s : Int} (h : s < 1 ∨ 1099511627775 < s) : okB ⟨g, a, p, d, s⟩ = false := okB_no fun k => by
  obtain ⟨k0, k1, _⟩ := k
  have k0 : 1 ≤ s := k0
  have k1 : s ≤ 1099511627775 := k1
  omega
set_option maxHeartbeats 4000000 in
theorem may_any (v : V) (w : World) : Calls Try.prog 18 #[noteV v] w (SaysB w (okB v)) := by
  obtain ⟨g, a, p, d, s⟩ := v
  unfold noteV
  dsimp only
  have S1 := Lib.hid (since_alloc (since_alloc (Below.refl w.heap.size w) (.cells #[.bool g, .int .u64 a, .int .i64 p, .bool d, .int .i64 s] 43)) (.cells #[.int .u64 a, .int .i64 p, .bool d, .int .i64 s] 41))
  by_cases h0 : s < 1
  · rw [okB_seq (Or.inl h0)]
    go_enter Try.func18, Try.ntmps18
    go_wp2
    go_ret
    exact ⟨rfl, S1⟩
  by_cases h1 : 1099511627775 < s
  · rw [okB_seq (Or.inr h1)]
    go_enter Try.func18, Try.ntmps18
    go_wp2
    go_ret
    exact ⟨rfl, S1⟩
  cases g
  · rw [okB_here (by omega) (by omega)]
    by_cases p0 : 0 ≤ p
    · by_cases p1 : p ≤ 255
      · rw [decide_eq_true ⟨p0, p1⟩]
        go_enter Try.func18, Try.ntmps18
        go_wp2
        go_ret
        exact ⟨by simp, S1⟩
      · rw [decide_eq_false (fun h => p1 h.2)]
        go_enter Try.func18, Try.ntmps18
        go_wp2
        go_ret
        exact ⟨by simp, S1⟩
    · rw [decide_eq_false (fun h => p0 h.1)]
      go_enter Try.func18, Try.ntmps18
      go_wp2
      go_ret
      exact ⟨by simp, S1⟩
  · rw [okB_gone (by omega) (by omega)]
    by_cases p0 : p = 0
    · subst p0
      rw [if_pos rfl]
      go_enter Try.func18, Try.ntmps18
      go_wp2
      go_ret
      exact ⟨by simp, S1⟩
    · rw [if_neg p0]
      have b0 : (p == 0) = false := by simpa using p0
      go_enter Try.func18, Try.ntmps18
      go_wp2
      go_ret
      exact ⟨by simp, S1⟩
end Go.Proofs.Ytaocppgekinocaa
