/-
  Slices of signed integers; arguments that came in: a polynomial some of whose values are replaced.
-/
import Derived.Test.YtfgfapbhgehfiaaFR
import Derived.Deep.Slices
import Derived.Deep.Fields
import Derived.ChangeSame
namespace Go.Proofs.Ytfgfapbhgehfiaa
open Go.ChangeShapes Go.WideShapes Go.ChangeAt Go.RowKit Go.Deep
set_option linter.unusedVariables false
set_option maxRecDepth 100000

/-- the slice value v reads as the signed integers zs -/
def IntsZ (w : World) (v : Value) (zs : List Int) : Prop :=
  (∀ n ∈ zs, -9223372036854775808 ≤ n ∧ n ≤ 9223372036854775807) ∧ zs.length ≤ 17592186043904 ∧ ∃ A cap, v = .slice A zs.length cap ∧ zs.length ≤ cap ∧
    (0 < zs.length → ∃ b off, A = some ⟨b, off, none⟩ ∧ b < w.heap.size ∧ ∀ i, i < zs.length → w.cell? ⟨b, off + i, none⟩ = some (.int .i64 (zs.getD i 0)))

theorem IntsZ.below {w w' : World} {v : Value} {zs : List Int} (h : IntsZ w v zs) (hb : Below w.heap.size w w') : IntsZ w' v zs := by
  obtain ⟨h1, h2, A, cap, e, hc, h3⟩ := h
  refine ⟨h1, h2, A, cap, e, hc, fun h0 => ?_⟩
  obtain ⟨b, off, eA, hl, hcell⟩ := h3 h0
  exact ⟨b, off, eA, Nat.lt_of_lt_of_le hl hb.size, fun i hi => (hb.cell (p := ⟨b, off + i, none⟩) hl).trans (hcell i hi)⟩

theorem intsZ_nil (W : World) : IntsZ W (.slice none 0 0) [] := ⟨by simp, by simp, none, 0, rfl, by simp, fun h => absurd h (by simp)⟩

theorem intsZ_row (W : World) (x : Addr) (len cap : Nat) (zs : List Int) (hl : len ≤ cap) (hz : zs.length = cap) (hcell : ∀ i, i < zs.length → W.cell? (x.add i) = some (.int .i64 (zs.getD i 0)))
    (hwz : ∀ n ∈ zs, (Lit.int .i64 n).wf = true) (hs : len * 8 ≤ 140737488351232) : ∃ ns, IntsZ W (.slice (some x) len cap) ns := by
  have hln : (zs.take len).length = len := by simp; omega
  refine ⟨zs.take len, fun n hn => ?_, by omega, some x, cap, by rw [hln], by omega, fun h0 => ?_⟩
  · exact bounds_i64 (hwz n (List.mem_of_mem_take hn))
  · obtain ⟨b, off, spot⟩ := x
    have hc := hcell 0 (by omega)
    have hspot : spot = none := by simpa [Addr.add] using World.cell?_spot hc
    subst hspot
    refine ⟨b, off, rfl, ?_, fun i hi => ?_⟩
    · have := World.block_lt_of_cell? W _ hc
      simpa [Addr.add] using this
    · rw [hln] at hi
      have h := hcell i (by omega)
      rw [Addr.add_lit] at h
      rw [h]
      simp [List.getD_eq_getElem?_getD, hi]

/-! ### What came in, cell by cell -/
theorem u64_of_trod {H : Type} {enc : TypeId × Value → H} {W : World} {base : Nat} {sp : Nat → Bool} {held : Bool} {fuel : Nat} {c : Value} {y : DataW H × List MemPlace}
    (h : DataW.trod enc Try.prog W base sp held fuel 22 [c] = some y) : ∃ n : Nat, c = .int .u64 n ∧ n < 18446744073709551616 := by
  obtain ⟨z, e, _, hwf⟩ := DataW.trod_int Try.underlying22 h
  simp at e
  subst e
  have hb := bounds_u64 hwf
  obtain ⟨z', rfl⟩ := Int.eq_ofNat_of_zero_le hb.1
  exact ⟨z', rfl, by omega⟩
theorem int_of_trod {H : Type} {enc : TypeId × Value → H} {W : World} {base : Nat} {sp : Nat → Bool} {held : Bool} {fuel : Nat} {c : Value} {y : DataW H × List MemPlace}
    (h : DataW.trod enc Try.prog W base sp held fuel 3 [c] = some y) : ∃ n : Int, c = .int .i64 n ∧ -9223372036854775808 ≤ n ∧ n ≤ 9223372036854775807 := by
  obtain ⟨z, e, _, hwf⟩ := DataW.trod_int Try.underlying3 h
  simp at e
  subst e
  exact ⟨z, rfl, bounds_i64 hwf⟩
theorem intsZ_of_trod {H : Type} {enc : TypeId × Value → H} {W : World} {base : Nat} {held : Bool} {fuel : Nat} {c : Value} {y : DataW H × List MemPlace}
    (h : DataW.trod enc Try.prog W base (fun _ => true) held fuel 32 [c] = some y) (hw : ∀ n ∈ y.1.weights Try.prog 32, n ≤ reachBytes) : ∃ zs, IntsZ W c zs := by
  rcases open_ints Try.underlying32 Try.underlying3 (by kernel_rfl) h with ⟨hcs, _⟩ | ⟨x, l, cp, zs, hcs, _, hl, hm, hz, hx, hcell, hwz⟩
  · simp at hcs
    subst hcs
    exact ⟨[], intsZ_nil W⟩
  · simp at hcs
    subst hcs
    have hs : l * 8 ≤ 140737488351232 := by
      rw [hx] at hw
      have h8 : Try.prog.bytesOf 3 = 8 := by kernel_rfl
      simp only [DataW.weights, Try.underlying32] at hw
      have := hw _ (List.mem_cons_self ..)
      rw [h8] at this
      simp only [lits, List.length_map, List.length_take, List.length_drop, reachBytes] at this
      simp at hz
      omega
    exact intsZ_row W x _ _ zs hl (by simpa using hz) hcell hwz hs

theorem agg_of6 {W : World} {b0 : Nat} {T : TypeId} {r : Reach} {v : Value} {fs : Array Field} (hT : Try.prog.underlying T = some (.struct fs)) (hv : Value.okWide Try.prog W r b0 T v) : ∃ l : List Value, v = .agg l.toArray := by
  obtain ⟨cs, rfl, hsz, _⟩ : ∃ cs, v = .agg cs ∧ cs.size = Try.prog.cellsOf T ∧ Row.okWide Try.prog W r b0 T cs := by simpa [Value.okWide, hT] using hv
  exact ⟨cs.toList, by simp⟩
theorem cells4 {l : List Value} (h : l.length = 4) : ∃ a b c d, l = [a, b, c, d] := by
  match l, h with
  | [a, b, c, d], _ => exact ⟨a, b, c, d, rfl⟩

theorem open_spoilt {H : Type} {enc : TypeId × Value → H} {W : World} {base b0 : Nat} {held : Bool} {r : Reach} {v : Value} {d : DataW H} {ps : List MemPlace}
    (hv : Value.okWide Try.prog W r b0 57 v) (h : DataW.Trod enc Try.prog W base (fun _ => true) held 57 v d ps)
    (hw : ∀ n ∈ d.weights Try.prog 57, n ≤ reachBytes) :
    ∃ (vf vx va vv : Value) (f x : List Nat) (a : List Int) (y : List Nat), v = .agg #[vf, vx, va, vv] ∧ Nums W vf f ∧ Nums W vx x ∧ IntsZ W va a ∧ Nums W vv y := by
  obtain ⟨l, rfl⟩ := agg_of6 Try.underlying57 hv
  obtain ⟨fuel, hf⟩ := h
  obtain ⟨xs, m, _, hxe, hl, hlen, hfs⟩ := DataW.trod_struct Try.underlying57 hf
  obtain ⟨y0, y1, y2, y3, rfl⟩ : ∃ a b c d, xs = [a, b, c, d] := by
    match xs, hlen with
    | [a, b, c, d], _ => exact ⟨a, b, c, d, rfl⟩
  rw [show Try.prog.cellsOf 57 = 4 by kernel_rfl] at hl
  obtain ⟨c0, c1, c2, c3, e⟩ := cells4 hl
  have e' : l = [c0, c1, c2, c3] := by simpa [Value.cells] using e
  subst e'
  have h0 := hfs 0 _ rfl
  have h1 := hfs 1 _ rfl
  have h2 := hfs 2 _ rfl
  have h3 := hfs 3 _ rfl
  simp only [Prod.mk.injEq] at hxe
  obtain ⟨rfl, _⟩ := hxe
  have hcu : Try.prog.cellsOf 31 = 1 := by kernel_rfl
  have hci : Try.prog.cellsOf 32 = 1 := by kernel_rfl
  simp only [DataW.weights, Try.underlying57, List.map_cons, List.map_nil, DataW.weightsEach, List.append_nil, List.mem_append] at hw
  obtain ⟨f, hF⟩ := nums_of_trod (c := c0) (y := y0) (by simpa [Value.cells, hcu] using h0) (fun n hn => hw n (.inl hn))
  obtain ⟨x, hX⟩ := nums_of_trod (c := c1) (y := y1) (by simpa [Value.cells, hcu] using h1) (fun n hn => hw n (.inr (.inl hn)))
  obtain ⟨a, hA⟩ := intsZ_of_trod (c := c2) (y := y2) (by simpa [Value.cells, hci] using h2) (fun n hn => hw n (.inr (.inr (.inl hn))))
  obtain ⟨yv, hY⟩ := nums_of_trod (c := c3) (y := y3) (by simpa [Value.cells, hcu] using h3) (fun n hn => hw n (.inr (.inr (.inr hn))))
  exact ⟨c0, c1, c2, c3, f, x, a, yv, rfl, hF, hX, hA, hY⟩
end Go.Proofs.Ytfgfapbhgehfiaa
