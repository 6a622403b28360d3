/- copy(row[o:..], bytes): a row of the call's own is written over from place o on. No conditions. -/
import Derived.Test.YtgamjffedlkbeaaOver
import Derived.Laws.CopyOwn
set_option linter.unusedVariables false
set_option linter.unusedSimpArgs false
namespace Go.Proofs.Ytgamjffedlkbeaa
open Go.RowKit

section
variable {P : Program} {a : Act} {o : Oper} {w w' : World}
theorem run_op_copy {x y : Operand} {t u : TypeId} {vx vy r : Value} (ho : o.op = .call { callee := .builtin .copy, args := #[x, y], argTypes := #[t, u] }) (hx : a.eval x = vx) (hy : a.eval y = vy) (hrun : (Builtin.copy_ #[t, u] o.type #[vx, vy]).run P w = .ok r w') : (execOp a.eval o).run P w = .ok (.value r) w' := by
  unfold execOp
  simp only [ho, resolve, invoke, builtin, Sem.run_bind, Sem.run_pure, Result.andThen_ok, List.map_toArray, List.map_cons, List.map_nil, hx, hy, hrun]
end
theorem own_copy {W : World} {base r n c o dLen dCap k sCap : Nat} {us cs : List Nat} {ad : Addr} (h : Own W base (some ⟨r, 0, none⟩) n c us) (hs : Bytes W W.heap.size (some ad) k cs) (hk : k ≤ dLen) (hfit : o + k ≤ n) :
    ∃ W2, (Builtin.copy_ #[28, 28] 3 #[.slice (some ⟨r, o, none⟩) dLen dCap, .slice (some ad) k sCap]).run Try.prog W = .ok (.int .i64 (k : Int)) W2 ∧ Own W2 base (some ⟨r, 0, none⟩) n c (us.take o ++ cs ++ us.drop (o + k)) ∧ W.grownBy W2 (some r) := by
  obtain ⟨i0, hi, hz0, hz1, hz2⟩ := info_parts info5
  have hul := h.len
  have hcl := hs.len
  rcases h.row.2 with ⟨hv, _⟩ | ⟨g, cap, cur, hv, hbg, hg, hnc, hcm, hsz, ht⟩
  · injection hv with h1; cases h1
  · injection hv with h1 h2 h3
    obtain rfl : r = g := by injection h1 with h1; injection h1
    subst h3
    have hcl2 : (cellsOf cs).length = k := by simp [cellsOf, hcl]
    have hsrc : ∀ j v, (cellsOf cs)[j]? = some v → W.cell? (ad.add j) = some v := fun j v hv => by
      have hj : j < k := by
        rcases Nat.lt_or_ge j (cellsOf cs).length with h' | h'
        · omega
        · rw [List.getElem?_eq_none h'] at hv; cases hv
      obtain ⟨ad', e1, _, e3⟩ := hs.lies j hj
      obtain rfl := Option.some.inj e1
      rw [e3, ← hv]
      unfold cellsOf byteAt
      rw [List.getElem?_map, List.getElem?_eq_getElem (by omega)]
      simp [List.getD_eq_getElem?_getD, List.getElem?_eq_getElem (show j < cs.length by omega)]
    have h1c : ∀ v ∈ cellsOf cs, v.oneCell' = true := fun v hv => by
      unfold cellsOf at hv
      obtain ⟨b, _, rfl⟩ := List.mem_map.1 hv
      rfl
    have hrun := run_copy_row (P := Try.prog) W 28 28 3 5 r o dLen dCap ad k sCap cur 5 (cellsOf cs) Try.underlying28 (by rw [hi]; simp [hz1]) hg (by rw [hcl2]; exact (Nat.min_eq_left hk).symm) hsrc (by rw [hcl2, hsz]; omega) h1c
    rw [hcl2] at hrun
    refine ⟨_, hrun, ⟨⟨?_, Or.inr ⟨r, c, _, rfl, hbg, setRow_heap _ _ _ _ _ _ hg, hnc, hcm, ?_, ?_⟩⟩, fun j => ?_⟩, ?_⟩
    · simp [cellsOf]; omega
    · have : cur.toList.length = cur.size := by simp
      simp only [List.size_toArray, List.length_append, List.length_take, List.length_drop, hcl2]
      omega
    · have hcut : cur.toList.take n = cellsOf us := by rw [← ht, Nat.mul_one]
      have hlen : cur.toList.length = cur.size := by simp
      have e1 : cur.toList.take o = (cellsOf us).take o := by rw [← hcut, List.take_take, Nat.min_eq_left (by omega)]
      rw [Nat.mul_one]
      show (cur.toList.take o ++ cellsOf cs ++ cur.toList.drop (o + k)).take n = _
      rw [List.take_append, List.take_of_length_le (by simp [hcl2]; omega)]
      have e2 : n - (cur.toList.take o ++ cellsOf cs).length = n - (o + k) := by
        rw [List.length_append, List.length_take, hcl2, Nat.min_eq_left (by rw [hlen, hsz]; omega)]
      rw [e2, ← List.drop_take, hcut, e1]
      unfold cellsOf
      simp [List.map_take, List.map_drop]
    · have hall : ∀ b ∈ us.take o ++ cs ++ us.drop (o + k), b < 256 := fun b hb => by
        have hu : ∀ b ∈ us, b < 256 := h.bytes.lt256
        rcases List.mem_append.1 hb with hb | hb
        · rcases List.mem_append.1 hb with hb | hb
          · exact hu b (List.mem_of_mem_take hb)
          · exact hs.lt256 b hb
        · exact hu b (List.mem_of_mem_drop hb)
      exact getD_small hall j
    · exact ⟨rfl, rfl, rfl, by simp [World.setRow], fun i hi hn => setRow_other W r i _ (fun e => hn (by rw [e]))⟩
end Go.Proofs.Ytgamjffedlkbeaa
