/-
  What comes in of layer 7.
-/
import Derived.Test.YtfkepkdfpjaniaaP7s
namespace Go.Proofs.Ytfkepkdfpjaniaa
open Go.ChangeShapes Go.WideShapes Go.ChangeAt Go.RowKit Go.Deep
set_option linter.unusedVariables false
set_option maxRecDepth 100000

theorem open_cutter {H : Type} {enc : TypeId × Value → H} {W : World} {base b0 : Nat} {held : Bool} {r : Reach} {v : Value} {d : DataW H} {ps : List MemPlace}
    (hv : Value.okWide Try.prog W r b0 54 v) (h : DataW.Trod enc Try.prog W base (fun _ => true) held 54 v d ps)
    (hw : ∀ n ∈ d.weights Try.prog 54, n ≤ reachBytes) :
    ∃ (v0 : Value) (z0 : List Nat) (v1 : Value) (z1 : List Nat), v = .agg #[v0, v1] ∧ Nums W v0 z0 ∧ Nums W v1 z1 := by
  obtain ⟨l, rfl⟩ := agg_of6 Try.underlying54 hv
  obtain ⟨fuel, hf⟩ := h
  obtain ⟨xs, m, _, hxe, hl, hlen, hfs⟩ := DataW.trod_struct Try.underlying54 hf
  obtain ⟨y0, y1, rfl⟩ : ∃ c0 c1, xs = [c0, c1] := by
    match xs, hlen with
    | [c0, c1], _ => exact ⟨c0, c1, rfl⟩
  rw [show Try.prog.cellsOf 54 = 2 by kernel_rfl] at hl
  obtain ⟨c0, c1, e⟩ : ∃ c0 c1, (Value.agg l.toArray).cells.toList = [c0, c1] := by
    match (Value.agg l.toArray).cells.toList, hl with
    | [c0, c1], _ => exact ⟨c0, c1, rfl⟩
  have e' : l = [c0, c1] := by simpa [Value.cells] using e
  subst e'
  have h0 := hfs 0 _ rfl
  have h1 := hfs 1 _ rfl
  simp only [Prod.mk.injEq] at hxe
  obtain ⟨rfl, _⟩ := hxe
  have hc_su64 : Try.prog.cellsOf 31 = 1 := by kernel_rfl
  simp only [DataW.weights, Try.underlying54, List.map_cons, List.map_nil, DataW.weightsEach, List.append_nil, List.mem_append] at hw
  obtain ⟨z0, b0⟩ := nums_of_trod (c := c0) (y := y0) (by simpa [Value.cells, hc_su64] using h0) (fun n hn => hw n (.inl hn))
  obtain ⟨z1, b1⟩ := nums_of_trod (c := c1) (y := y1) (by simpa [Value.cells, hc_su64] using h1) (fun n hn => hw n (.inr hn))
  exact ⟨c0, z0, c1, z1, rfl, b0, b1⟩


theorem open_shift {H : Type} {enc : TypeId × Value → H} {W : World} {base b0 : Nat} {held : Bool} {r : Reach} {v : Value} {d : DataW H} {ps : List MemPlace}
    (hv : Value.okWide Try.prog W r b0 71 v) (h : DataW.Trod enc Try.prog W base (fun _ => true) held 71 v d ps)
    (hw : ∀ n ∈ d.weights Try.prog 71, n ≤ reachBytes) :
    ∃ (v0 : Value) (z0 : List Nat) (v1 : Value) (z1 : List Nat) (a2 : Nat) (a3 : Nat) (v4 : Value) (z4 : List Int), v = .agg #[v0, v1, .int .u64 a2, .int .u64 a3, v4] ∧ Nums W v0 z0 ∧ Nums W v1 z1 ∧ a2 < 18446744073709551616 ∧ a3 < 18446744073709551616 ∧ IntsZ W v4 z4 := by
  obtain ⟨l, rfl⟩ := agg_of6 Try.underlying71 hv
  obtain ⟨fuel, hf⟩ := h
  obtain ⟨xs, m, _, hxe, hl, hlen, hfs⟩ := DataW.trod_struct Try.underlying71 hf
  obtain ⟨y0, y1, y2, y3, y4, rfl⟩ : ∃ c0 c1 c2 c3 c4, xs = [c0, c1, c2, c3, c4] := by
    match xs, hlen with
    | [c0, c1, c2, c3, c4], _ => exact ⟨c0, c1, c2, c3, c4, rfl⟩
  rw [show Try.prog.cellsOf 71 = 5 by kernel_rfl] at hl
  obtain ⟨c0, c1, c2, c3, c4, e⟩ : ∃ c0 c1 c2 c3 c4, (Value.agg l.toArray).cells.toList = [c0, c1, c2, c3, c4] := by
    match (Value.agg l.toArray).cells.toList, hl with
    | [c0, c1, c2, c3, c4], _ => exact ⟨c0, c1, c2, c3, c4, rfl⟩
  have e' : l = [c0, c1, c2, c3, c4] := by simpa [Value.cells] using e
  subst e'
  have h0 := hfs 0 _ rfl
  have h1 := hfs 1 _ rfl
  have h2 := hfs 2 _ rfl
  have h3 := hfs 3 _ rfl
  have h4 := hfs 4 _ rfl
  simp only [Prod.mk.injEq] at hxe
  obtain ⟨rfl, _⟩ := hxe
  have hc_si : Try.prog.cellsOf 59 = 1 := by kernel_rfl
  have hc_su64 : Try.prog.cellsOf 31 = 1 := by kernel_rfl
  have hc_u64 : Try.prog.cellsOf 22 = 1 := by kernel_rfl
  simp only [DataW.weights, Try.underlying71, List.map_cons, List.map_nil, DataW.weightsEach, List.append_nil, List.mem_append] at hw
  obtain ⟨z0, b0⟩ := nums_of_trod (c := c0) (y := y0) (by simpa [Value.cells, hc_su64] using h0) (fun n hn => hw n (.inl hn))
  obtain ⟨z1, b1⟩ := nums_of_trod (c := c1) (y := y1) (by simpa [Value.cells, hc_su64] using h1) (fun n hn => hw n (.inr (.inl hn)))
  obtain ⟨a2, rfl, b2⟩ := u64_of_trod (c := c2) (y := y2) (by simpa [Value.cells, hc_u64] using h2)
  obtain ⟨a3, rfl, b3⟩ := u64_of_trod (c := c3) (y := y3) (by simpa [Value.cells, hc_u64] using h3)
  obtain ⟨z4, b4⟩ := intsZ_of_trod (c := c4) (y := y4) (by simpa [Value.cells, hc_si] using h4) (fun n hn => hw n (.inr (.inr (.inr (.inr hn)))))
  exact ⟨c0, z0, c1, z1, a2, a3, c4, z4, rfl, b0, b1, b2, b3, b4⟩


end Go.Proofs.Ytfkepkdfpjaniaa
