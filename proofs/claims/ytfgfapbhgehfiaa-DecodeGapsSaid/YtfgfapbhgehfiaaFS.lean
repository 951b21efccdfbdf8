/-
  Arguments that came in: points, some of them left out.
-/
import Derived.Test.YtfgfapbhgehfiaaFR
import Derived.Test.YtfgfapbhgehfiaaG3
import Derived.Deep.Grids
namespace Go.Proofs.Ytfgfapbhgehfiaa
open Go.ChangeShapes Go.WideShapes Go.ChangeAt Go.RowKit Go.Deep
set_option linter.unusedVariables false
set_option maxRecDepth 100000

theorem agg_of5 {W : World} {b0 : Nat} {T : TypeId} {r : Reach} {v : Value} {fs : Array Field} (hT : Try.prog.underlying T = some (.struct fs)) (hv : Value.okWide Try.prog W r b0 T v) : ∃ l : List Value, v = .agg l.toArray := by
  obtain ⟨cs, rfl, hsz, _⟩ : ∃ cs, v = .agg cs ∧ cs.size = Try.prog.cellsOf T ∧ Row.okWide Try.prog W r b0 T cs := by simpa [Value.okWide, hT] using hv
  exact ⟨cs.toList, by simp⟩

theorem bools_of_trod {H : Type} {enc : TypeId × Value → H} {W : World} {base : Nat} {held : Bool} {fuel : Nat} {c : Value} {y : DataW H × List MemPlace}
    (h : DataW.trod enc Try.prog W base (fun _ => true) held fuel 42 [c] = some y) (hw : ∀ n ∈ y.1.weights Try.prog 42, n ≤ reachBytes) : ∃ bs, Bools W c bs := by
  rcases open_bools Try.underlying42 Try.underlying4 (by kernel_rfl) h with ⟨hcs, _⟩ | ⟨x, l, cp, B, hcs, _, hl, hm, hx, hcell⟩
  · simp at hcs
    subst hcs
    exact ⟨[], by simp, none, 0, rfl, by simp, fun h => absurd h (by simp)⟩
  · simp at hcs
    subst hcs
    have hs : l ≤ 140737488351232 := by
      rw [hx] at hw
      have h1 : Try.prog.bytesOf 4 = 1 := by kernel_rfl
      simp only [boolRow, DataW.weights, Try.underlying42] at hw
      have := hw _ (List.mem_cons_self ..)
      rw [h1] at this
      simp only [List.length_map, List.length_range, reachBytes] at this
      omega
    have hln : ((List.range l).map B).length = l := by simp
    refine ⟨(List.range l).map B, by rw [hln]; exact hs, some x, cp, by rw [hln], by rw [hln]; exact hl, fun h0 => ?_⟩
    rw [hln] at h0
    obtain ⟨b, off, spot⟩ := x
    have hc := hcell 0 (by omega)
    have hspot : spot = none := by simpa [Addr.add] using World.cell?_spot hc
    subst hspot
    refine ⟨b, off, rfl, ?_, fun i hi => ?_⟩
    · have := World.block_lt_of_cell? W _ hc
      simpa [Addr.add] using this
    · rw [hln] at hi
      have h := hcell i (by omega)
      rw [Addr.add_lit] at h
      rw [h]
      simp [List.getD_eq_getElem?_getD, hi]

theorem slice_of_trod {H : Type} {enc : TypeId × Value → H} {W : World} {base : Nat} {sp : Nat → Bool} {held : Bool} {fuel : Nat} {c : Value} {y : DataW H × List MemPlace} {T E : TypeId} (hT : Try.prog.underlying T = some (.slice E))
    (h : DataW.trod enc Try.prog W base sp held fuel T [c] = some y) : ∃ a len cap, c = .slice a len cap := by
  rcases open_slice hT h with ⟨hcs, _⟩ | ⟨a, len, cap, m, n, D, Pl, hcs, _⟩
  · simp at hcs
    exact ⟨_, _, _, hcs⟩
  · simp at hcs
    exact ⟨_, _, _, hcs⟩

theorem some_cells2 {l : List Value} (h : l.length = 2) : ∃ a b, l = [a, b] := by
  match l, h with
  | [a, b], _ => exact ⟨a, b, rfl⟩

theorem open_some {H : Type} {enc : TypeId × Value → H} {W : World} {base b0 : Nat} {held : Bool} {r : Reach} {v : Value} {d : DataW H} {ps : List MemPlace}
    (hv : Value.okWide Try.prog W r b0 44 v) (h : DataW.Trod enc Try.prog W base (fun _ => true) held 44 v d ps)
    (hw : ∀ n ∈ d.weights Try.prog 44, n ≤ reachBytes) (hlt : ∀ x ∈ ps, x.block < W.heap.size) :
    ∃ (vp vb : Value) (x y : List Nat) (bs : List Bool), v = .agg #[vp, vb] ∧ Pts W vp x y ∧ Bools W vb bs := by
  obtain ⟨l, rfl⟩ := agg_of5 Try.underlying44 hv
  obtain ⟨fuel, hf⟩ := h
  obtain ⟨y0, y1, m, hxe, hl, h0, h1⟩ := trod_struct2 Try.underlying44 hf
  rw [show Try.prog.cellsOf 44 = 2 by kernel_rfl] at hl
  obtain ⟨c0, c1, e⟩ := some_cells2 hl
  have e' : l = [c0, c1] := by simpa [Value.cells] using e
  subst e'
  simp only [Prod.mk.injEq] at hxe
  obtain ⟨rfl, rfl⟩ := hxe
  rw [show Try.prog.cellsOf 23 = 1 by kernel_rfl] at h0
  rw [show Try.prog.cellsOf 42 = 1 by kernel_rfl] at h1
  simp only [DataW.weights, Try.underlying44, List.map_cons, List.map_nil, DataW.weightsEach, List.append_nil, List.mem_append] at hw
  have g0 : DataW.trod enc Try.prog W base (fun _ => true) held m 23 [c0] = some y0 := by simpa [Value.cells] using h0
  have g1 : DataW.trod enc Try.prog W base (fun _ => true) held m 42 [c1] = some y1 := by simpa [Value.cells] using h1
  obtain ⟨a, len, cap, rfl⟩ := slice_of_trod Try.underlying23 g0
  obtain ⟨xs, ys, hP⟩ := open_points rfl ⟨m, by simpa [Value.cells] using g0⟩ (fun n hn => hw n (.inl hn)) (fun x hx => hlt x (List.mem_append_left _ hx))
  obtain ⟨bs, hB⟩ := bools_of_trod g1 (fun n hn => hw n (.inr hn))
  exact ⟨_, _, xs, ys, bs, rfl, hP, hB⟩
end Go.Proofs.Ytfgfapbhgehfiaa
