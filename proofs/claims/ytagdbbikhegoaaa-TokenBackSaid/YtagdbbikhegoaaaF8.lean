/-
  Tokens: what an argument reads as: a slice of tokens.
-/
import Derived.Test.YtagdbbikhegoaaaWa
import Derived.WalkKit
import Derived.ProofKit
import Derived.OpenShut
import Derived.SizedLaws
import Derived.Deep.Slices
import Derived.Deep.Fields
import Derived.ChangeSame
namespace Go.Proofs.Ytagdbbikhegoaaa
open Go.ChangeShapes Go.WideShapes Go.ChangeAt Go.RowKit Go.Deep
set_option linter.unusedVariables false
theorem mem_weightsAll {H : Type} {P : Program} {e : TypeId} {d : DataW H} {n : Nat} : ∀ l : List (DataW H), d ∈ l → n ∈ d.weights P e → n ∈ DataW.weightsAll P e l
  | [], h, _ => by cases h
  | x :: l, h, hn => by
    rw [DataW.weightsAll]
    rcases List.mem_cons.1 h with rfl | h
    · exact List.mem_append_left _ hn
    · exact List.mem_append_right _ (mem_weightsAll l h hn)
theorem toks_list {P : Nat → T8 → Prop} : ∀ n : Nat, (∀ i, i < n → ∃ x, P i x) → ∃ xs : List T8, xs.length = n ∧ ∀ i, i < n → P i (xs.getD i T8.no)
  | 0, _ => ⟨[], rfl, fun i h => by omega⟩
  | n + 1, h => by
    obtain ⟨xs, hl, hx⟩ := toks_list n (fun i hi => h i (by omega))
    obtain ⟨x, hn⟩ := h n (by omega)
    refine ⟨xs ++ [x], by simp [hl], fun i hi => ?_⟩
    by_cases h2 : i < n
    · have e : (xs ++ [x]).getD i T8.no = xs.getD i T8.no := by
        rw [List.getD_eq_getElem?_getD, List.getD_eq_getElem?_getD, List.getElem?_append_left (by omega)]
      rw [e]; exact hx i h2
    · obtain rfl : i = n := by omega
      have e : (xs ++ [x]).getD i T8.no = x := by
        rw [List.getD_eq_getElem?_getD, List.getElem?_append_right (by omega), hl, Nat.sub_self]; rfl
      rw [e]; exact hn
set_option maxRecDepth 100000 in
theorem open_tokens {H : Type} {enc : TypeId × Value → H} {W : World} {base : Nat} {sp : Nat → Bool} {held : Bool} {v : Value} {d : DataW H} {ps : List MemPlace} {a : Option Addr} {len cap : Nat} (hv : v = .slice a len cap)
    (h : DataW.Trod enc Try.prog W base sp held 22 v d ps) (hw : ∀ n ∈ d.weights Try.prog 22, n ≤ reachBytes) : ∃ ts, TokS W v ts ∧ TokIn ts := by
  subst hv
  obtain ⟨fuel, hf⟩ := h
  have hP : Try.prog.underlying 32 = some (.struct _) := Try.underlying32
  have hC : Try.prog.cellsOf 32 = 3 := by kernel_rfl
  rcases open_slice Try.underlying22 hf with ⟨hcs, _⟩ | ⟨x, l, c, m, n, D, Pl, hcs, hb, hl, hm, hmm, hx, hi⟩
  · simp [Value.cells] at hcs
    obtain ⟨rfl, rfl, rfl⟩ := hcs
    exact ⟨[], TokS.nil W, fun t ht => by cases ht⟩
  · simp [Value.cells] at hcs
    obtain ⟨rfl, rfl, rfl⟩ := hcs
    have hx1 := congrArg Prod.fst hx
    dsimp only at hx1
    rw [hx1] at hw
    have h32 : Try.prog.bytesOf 32 = 32 := by kernel_rfl
    simp only [DataW.weights, Try.underlying22] at hw
    have hs := hw _ (List.mem_cons_self ..)
    rw [h32] at hs
    simp only [List.length_map, List.length_range, reachBytes] at hs
    have each : ∀ i, i < len → ∃ t : T8, (W.cell? (x.add (i * 3)) = some (.int .i64 t.kind) ∧ W.cell? ((x.add (i * 3)).add 1) = some (.string t.text) ∧ W.cell? ((x.add (i * 3)).add 2) = some (.int .i64 t.off)) ∧
        t.text.size ≤ 140737488351232 ∧ (-9223372036854775808 ≤ t.kind ∧ t.kind ≤ 9223372036854775807) ∧ -9223372036854775808 ≤ t.off ∧ t.off ≤ 9223372036854775807 := by
      intro i hil
      have him : i < m := by rw [hmm]; split <;> omega
      obtain ⟨cs', hc, ht'⟩ := hi i him
      rw [hC] at hc
      obtain ⟨ys, n', hn', hy, hlen, hyl, hf⟩ := DataW.trod_struct hP ht'
      obtain ⟨_, hcl, hat⟩ := World.cells?_some hc
      match cs', hcl with
      | [k0, k1, k2], _ =>
      match ys, hyl with
      | [y0, y1, y2], _ =>
      have c0 := hat 0 (by decide)
      have c1 := hat 1 (by decide)
      have c2 := hat 2 (by decide)
      have f0 : DataW.trod enc Try.prog W base sp held n' 3 (([k0, k1, k2].drop 0).take (Try.prog.cellsOf 3)) = [y0, y1, y2][0]? := hf 0 _ rfl
      have f1 : DataW.trod enc Try.prog W base sp held n' 9 (([k0, k1, k2].drop 1).take (Try.prog.cellsOf 9)) = [y0, y1, y2][1]? := hf 1 _ rfl
      have f2 : DataW.trod enc Try.prog W base sp held n' 3 (([k0, k1, k2].drop 2).take (Try.prog.cellsOf 3)) = [y0, y1, y2][2]? := hf 2 _ rfl
      rw [show Try.prog.cellsOf 3 = 1 by kernel_rfl] at f0 f2
      rw [show Try.prog.cellsOf 9 = 1 by kernel_rfl] at f1
      obtain ⟨z0, e0, _, w0⟩ := DataW.trod_int Try.underlying3 f0
      obtain ⟨s1, e1, g1, w1⟩ := DataW.trod_string Try.underlying9 f1
      obtain ⟨z2, e2, _, w2⟩ := DataW.trod_int Try.underlying3 f2
      simp at e0 e1 e2
      subst e0 e1 e2
      have hD : D i = .agg ([y0, y1, y2].map (·.1)) := congrArg Prod.fst hy
      have hsz : s1.size ≤ reachBytes := by
        refine hw _ (List.mem_cons_of_mem _ (List.mem_append_left _ (mem_weightsAll (d := D i) _ (List.mem_map_of_mem (List.mem_range.2 hil)) ?_)))
        rw [hD]
        simp only [DataW.weights, hP]
        refine DataW.weights_mem_each (j := 1) (t := 9) (d := .lit (.string s1.data.toList)) rfl ?_ _ (by simp [DataW.weights])
        rw [show y1 = (.lit (.string s1.data.toList), []) from g1]
        rfl
      have b0 := bounds_i64 w0
      have b2 := bounds_i64 w2
      refine ⟨⟨z0, s1, z2⟩, ⟨by simpa [Addr.add] using c0, c1, c2⟩, ?_, b0, b2⟩
      unfold reachBytes at hsz
      exact hsz
    obtain ⟨ts, htl, hts⟩ := toks_list len each
    refine ⟨ts, ⟨by omega, some x, cap, by rw [htl], by omega, fun h0 => ?_⟩, ?_⟩
    · obtain ⟨b, off, spot⟩ := x
      have hc0 := (hts 0 (by omega)).1.1
      have hspot : spot = none := by simpa [Addr.add] using World.cell?_spot hc0
      subst hspot
      refine ⟨b, off, rfl, by simpa [Addr.add] using World.block_lt_of_cell? W _ hc0, fun i hil => ?_⟩
      obtain ⟨q0, q1, q2⟩ := (hts i (by omega)).1
      rw [Go.Deep.add_add] at q1 q2
      rw [Addr.add_lit] at q0 q1 q2
      exact ⟨q0, by rw [Nat.add_assoc]; exact q1, by rw [Nat.add_assoc]; exact q2⟩
    · intro t ht
      obtain ⟨i, hi', rfl⟩ := List.getElem_of_mem ht
      have := (hts i (by omega)).2
      rw [List.getD_eq_getElem?_getD, List.getElem?_eq_getElem hi'] at this
      exact ⟨this.1, this.2.1.1, this.2.1.2, this.2.2.1, this.2.2.2⟩
end Go.Proofs.Ytagdbbikhegoaaa
