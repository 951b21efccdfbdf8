/-
  A set of numbers, kept as a map of bools that the call makes: the look-up of a bool, the set's datum.
-/
import Derived.Test.YtfgfapbhgehfiaaLA
import Derived.Maps.Own
import Derived.Maps.OwnOps
import Derived.Maps.Views
namespace Go.Proofs.Ytfgfapbhgehfiaa
open Go.RowKit
open Go.Maps
set_option linter.unusedVariables false
set_option maxRecDepth 100000

theorem elem_bool_inv {P : Program} {e : TypeId} (he : P.underlying e = some .bool) {v : Value} {z : DataW Unit × List MemPlace} (h : plainElem P e v = some z) : ∃ x, v = .bool x ∧ z = (.lit (.bool x), []) := by
  unfold plainElem at h
  rw [he] at h
  cases v <;> simp at h
  exact ⟨_, rfl, h.symm⟩
/-- m[k] at bools: the walk goes on with the bool that the datum tells -/
theorem wpList_lookup_own_bool {P : Program} (w : World) {ops : Array Oper} {rest : List Oper} {o : Oper} {a : Act} {Q : Exit → Act → World → Prop}
    (hg : o.guard = none) (m x : Operand) (t : TypeId) (hop : o.op = Op.lookup t m x false)
    (k e : TypeId) (K : Keyed P k) (ht : P.underlying t = some (.map k e)) (he : P.underlying e = some .bool) (hz : (zeroValue e).run P w = .ok (.bool false) w) (b n : Nat) (D : DataW Unit)
    (hm : a.eval m = .map (some b)) (hown : w.ownsMap P k (plainElem P e) b n D) (key : Value) (kl : Lit) (hx : a.eval x = key) (hkey : keyOf P k key = some kl)
    (hK : ∀ c : Bool, D.atKey kl (.lit (.bool false)) = .lit (.bool c) → wpList P ops Q rest (a.put o.dst (.bool c)) w) :
    wpList P ops Q (o :: rest) a w := by
  refine wpList_plain hg fun K' hK' => ?_
  obtain ⟨v, ps, hrun, hv⟩ := hown.lookup K ht hz (plainElem_bool he false) hkey
  obtain ⟨c, rfl, hc⟩ := elem_bool_inv he hv
  simp only [Prod.mk.injEq] at hc
  unfold Oper.wp
  simp [execOp, hop, hm, hx, hrun, Result.andThen]
  exact hK' _ _ (hK c hc.1)

/-- the set of the first k numbers -/
def seenD (xs : List Nat) (k : Nat) : DataW Unit := Maps.setOf (.lit (.bool true)) ((xs.take k).map fun x => Lit.int .u64 (x : Nat))
theorem seenD_zero (xs : List Nat) : seenD xs 0 = .map [] := by simp [seenD, Maps.setOf]
theorem seenD_succ {xs : List Nat} {k : Nat} (h : k < xs.length) : seenD xs (k + 1) = (seenD xs k).put (.int .u64 (xs.getD k 0 : Nat)) (.lit (.bool true)) := by
  unfold seenD
  rw [List.take_add_one, List.getElem?_eq_getElem h, Option.toList_some, List.map_append, List.map_singleton, Maps.setOf_snoc, List.getD_eq_getElem?_getD, List.getElem?_eq_getElem h]
  rfl
theorem seen_fold (x : Nat) : ∀ (l : List Nat) (D : DataW Unit), Maps.IsMap D → ((l.map fun x => Lit.int .u64 (x : Nat)).foldl (fun m x => m.put x (.lit (.bool true))) D).atKey (.int .u64 (x : Nat)) (.lit (.bool false)) = if x ∈ l then .lit (.bool true) else D.atKey (.int .u64 (x : Nat)) (.lit (.bool false))
  | [], D, _ => by simp
  | a :: t, D, hD => by
    rw [List.map_cons, List.foldl_cons, seen_fold x t _ (hD.put _ _)]
    by_cases ht : x ∈ t
    · rw [if_pos ht, if_pos (List.mem_cons_of_mem _ ht)]
    · rw [if_neg ht]
      by_cases hx : x = a
      · subst hx
        rw [if_pos (List.mem_cons_self ..), Maps.atKey_put_same hD (by trivial)]
      · rw [if_neg (by simp [hx, ht]), Maps.atKey_put_other (by intro h; injection h with _ h; exact hx (by omega))]
theorem seen_at (xs : List Nat) (k x : Nat) : (seenD xs k).atKey (.int .u64 (x : Nat)) (.lit (.bool false)) = .lit (.bool (decide (x ∈ xs.take k))) := by
  unfold seenD Maps.setOf
  rw [seen_fold x _ _ ⟨[], rfl⟩]
  by_cases h : x ∈ xs.take k
  · simp [h]
  · rw [if_neg h]
    simp [h]
    rfl
theorem makeMap_hint {P : Program} {t k e : TypeId} (h : P.underlying t = some (.map k e)) (w : World) (n : Nat) : (Instr.makeMap t (some (.int .i64 (n : Nat)))).run P w = .ok (.map (some w.heap.size)) (w.alloc (.map #[] 0)) := by
  simp [Instr.makeMap, run_underlying h, asInt, asIntOf, Result.andThen]
end Go.Proofs.Ytfgfapbhgehfiaa
