/-
  Frame, Frame2 (joined).
-/
import Derived.Test.YtfkepkdfpjaniaaLA
import Derived.Test.YtfkepkdfpjaniaaLF
import Derived.WalkKit
import Derived.ProofKit
import Derived.OpenShut
import Derived.SizedLaws
import Derived.Deep.Slices
import Derived.Deep.Fields
import Derived.ChangeSame
namespace Go.Proofs.Ytfkepkdfpjaniaa
open Go.ChangeShapes Go.WideShapes Go.ChangeAt Go.RowKit
set_option linter.unusedVariables false

theorem nums_row_nil (W : World) : ∃ zs, Nums W (.slice none 0 0) zs := ⟨[], by simp, by simp, .inl ⟨none, 0, rfl, rfl, fun _ => rfl⟩⟩

theorem nums_row_nil' (W : World) : Nums W (.slice none 0 0) [] := ⟨by simp, by simp, .inl ⟨none, 0, rfl, rfl, fun _ => rfl⟩⟩
theorem nums_row' (W : World) (x : Addr) (len cap : Nat) (zs : List Int) (hl : len ≤ cap) (hz : zs.length = cap) (hcell : ∀ i, i < zs.length → W.cell? (x.add i) = some (.int .u64 (zs.getD i 0)))
    (hwz : ∀ n ∈ zs, (Lit.int .u64 n).wf = true) (hs : len * 8 ≤ 140737488351232) : ∃ ns, Nums W (.slice (some x) len cap) ns ∧ ns.length = len := by
  refine ⟨(zs.take len).map Int.toNat, ⟨?_, ?_, ?_⟩, by simp; omega⟩
  · intro n hn
    obtain ⟨z, hz', rfl⟩ := List.mem_map.1 hn
    have := bounds_u64 (hwz z (List.mem_of_mem_take hz'))
    omega
  · simp; omega
  · by_cases h0 : len = 0
    · subst h0; exact .inl ⟨_, _, rfl, by simp, by simp⟩
    · right
      obtain ⟨b, off, spot⟩ := x
      have hc := hcell 0 (by omega)
      have hspot : spot = none := by simpa [Addr.add] using World.cell?_spot hc
      subst hspot
      have hln : ((zs.take len).map Int.toNat).length = len := by simp; omega
      refine ⟨b, off, cap, by rw [hln], by omega, ?_, ?_⟩
      · have := World.block_lt_of_cell? W _ hc
        simpa [Addr.add] using this
      · intro i hi
        rw [hln] at hi
        have h := hcell i (by omega)
        rw [Addr.add_lit] at h
        rw [h]
        have hi2 : i < zs.length := by omega
        have hb := bounds_u64 (hwz zs[i] (List.getElem_mem hi2))
        simp [List.getD_eq_getElem?_getD, hi, hi2]
        omega

theorem nums_row (W : World) (x : Addr) (len cap : Nat) (zs : List Int) (hl : len ≤ cap) (hz : zs.length = cap) (hcell : ∀ i, i < zs.length → W.cell? (x.add i) = some (.int .u64 (zs.getD i 0)))
    (hwz : ∀ n ∈ zs, (Lit.int .u64 n).wf = true) (hs : len * 8 ≤ 140737488351232) : ∃ ns, Nums W (.slice (some x) len cap) ns := by
  obtain ⟨ns, h, _⟩ := nums_row' W x len cap zs hl hz hcell hwz hs
  exact ⟨ns, h⟩

/-- an array of integers that came in by value: its cells -/
theorem open_array {H : Type} {enc : TypeId × Value → H} {P : Program} {W : World} {base b0 : Nat} {sp : Nat → Bool} {held : Bool} {T E : TypeId} {k : IntKind} {n : Nat} {r : Reach} {v : Value} {d : DataW H} {ps : List MemPlace}
    (hT : P.underlying T = some (.array n E)) (hE : P.underlying E = some (.int k)) (hCT : P.cellsOf T = n) (hCE : P.cellsOf E = 1) (hv : Value.okWide P W r b0 T v) (h : DataW.Trod enc P W base sp held T v d ps) :
    ∃ zs : List Int, zs.length = n ∧ v = .agg (zs.map (Value.int k)).toArray ∧ ∀ z ∈ zs, (Lit.int k z).wf = true := by
  obtain ⟨cs, rfl, hsz, _⟩ : ∃ cs, v = .agg cs ∧ cs.size = P.cellsOf T ∧ Row.okWide P W r b0 T cs := by simpa [Value.okWide, hT] using hv
  obtain ⟨l⟩ := cs
  obtain ⟨fuel, hf⟩ := h
  obtain ⟨xs, m, _, _, _, hlen, hx⟩ := DataW.trod_array hT hf
  have hl : l.length = n := by rw [hCT] at hsz; simpa using hsz
  have each : ∀ i, i < n → ∃ z, l[i]? = some (.int k z) ∧ (Lit.int k z).wf = true := by
    intro i hi
    have h1 := hx i hi
    rw [hCE, Nat.mul_one] at h1
    have h2 : xs[i]? = some xs[i] := List.getElem?_eq_getElem (by omega)
    rw [h2] at h1
    obtain ⟨z, e, _, hw⟩ := DataW.trod_int hE h1
    refine ⟨z, ?_, hw⟩
    have e2 := congrArg (fun l => l[0]?) e
    simpa [Value.cells] using e2
  refine ⟨l.map fun v => intOf v, by simpa using hl, ?_, ?_⟩
  · congr 1
    congr 1
    apply List.ext_getElem?
    intro i
    by_cases hi : i < n
    · obtain ⟨z, hz, _⟩ := each i hi
      simp [hz, intOf]
    · rw [List.getElem?_eq_none (by omega), List.getElem?_eq_none (by simp; omega)]
  · intro z hz
    obtain ⟨v, hv, rfl⟩ := List.mem_map.1 hz
    obtain ⟨i, hi, rfl⟩ := List.mem_iff_getElem.1 hv
    obtain ⟨z, hz, hw⟩ := each i (by omega)
    rw [List.getElem?_eq_getElem hi] at hz
    simp at hz
    rw [hz]; exact hw

theorem len2 {α : Type} {l : List α} (h : l.length = 2) : ∃ a b, l = [a, b] := by
  match l, h with
  | [a, b], _ => exact ⟨a, b, rfl⟩
theorem len3 {α : Type} {l : List α} (h : l.length = 3) : ∃ a b c, l = [a, b, c] := by
  match l, h with
  | [a, b, c], _ => exact ⟨a, b, c, rfl⟩
end Go.Proofs.Ytfkepkdfpjaniaa
namespace Go.Proofs.Ytfkepkdfpjaniaa
open Go.ChangeShapes Go.WideShapes Go.ChangeAt Go.RowKit Go.Deep
set_option linter.unusedVariables false
set_option maxRecDepth 100000

/-- one slice of numbers, read as a datum whose weights are within reach -/
theorem nums_of_trod {H : Type} {enc : TypeId × Value → H} {W : World} {base : Nat} {held : Bool} {fuel : Nat} {c : Value} {y : DataW H × List MemPlace}
    (h : DataW.trod enc Try.prog W base (fun _ => true) held fuel 31 [c] = some y) (hw : ∀ n ∈ y.1.weights Try.prog 31, n ≤ reachBytes) : ∃ zs, Nums W c zs := by
  rcases open_ints Try.underlying31 Try.underlying22 (by kernel_rfl) h with ⟨hcs, _⟩ | ⟨x, l, cp, zs, hcs, _, hl, hm, hz, hx, hcell, hwz⟩
  · simp at hcs
    subst hcs
    exact nums_row_nil W
  · simp at hcs
    subst hcs
    have hs : l * 8 ≤ 140737488351232 := by
      rw [hx] at hw
      have h8 : Try.prog.bytesOf 22 = 8 := by kernel_rfl
      simp only [DataW.weights, Try.underlying31] at hw
      have := hw _ (List.mem_cons_self ..)
      rw [h8] at this
      simp only [lits, List.length_map, List.length_take, List.length_drop, reachBytes] at this
      simp at hz
      omega
    exact nums_row W x _ _ zs hl (by simpa using hz) hcell hwz hs

theorem open_array2s {H : Type} {enc : TypeId × Value → H} {W : World} {base b0 : Nat} {held : Bool} {T : TypeId} {r : Reach} {v : Value} {d : DataW H} {ps : List MemPlace}
    (hT : Try.prog.underlying T = some (.array 2 31)) (hCT : Try.prog.cellsOf T = 2) (hCE : Try.prog.cellsOf 31 = 1) (hv : Value.okWide Try.prog W r b0 T v) (h : DataW.Trod enc Try.prog W base (fun _ => true) held T v d ps)
    (hw : ∀ n ∈ d.weights Try.prog T, n ≤ reachBytes) : ∃ v0 v1 z0 z1, v = .agg #[v0, v1] ∧ Nums W v0 z0 ∧ Nums W v1 z1 := by
  obtain ⟨cs, rfl, hsz, _⟩ : ∃ cs, v = .agg cs ∧ cs.size = Try.prog.cellsOf T ∧ Row.okWide Try.prog W r b0 T cs := by simpa [Value.okWide, hT] using hv
  obtain ⟨l⟩ := cs
  obtain ⟨fuel, hf⟩ := h
  obtain ⟨xs, m, _, hd, _, hlen, hx⟩ := DataW.trod_array hT hf
  have hl : l.length = 2 := by rw [hCT] at hsz; simpa using hsz
  obtain ⟨c0, c1, rfl⟩ := len2 hl
  obtain ⟨y0, y1, rfl⟩ := len2 hlen
  have h0 := hx 0 (by omega)
  have h1 := hx 1 (by omega)
  rw [hCE] at h0 h1
  simp only [Prod.mk.injEq] at hd
  rw [hd.1] at hw
  simp only [List.map_cons, List.map_nil, DataW.weights, hT, DataW.weightsAll, List.append_nil, List.mem_append] at hw
  obtain ⟨z0, n0⟩ := nums_of_trod (by simpa [Value.cells] using h0) (fun n hn => hw n (.inl hn))
  obtain ⟨z1, n1⟩ := nums_of_trod (by simpa [Value.cells] using h1) (fun n hn => hw n (.inr hn))
  exact ⟨c0, c1, z0, z1, rfl, n0, n1⟩

theorem list_of {P : Nat → Nat → Prop} : ∀ n : Nat, (∀ i, i < n → ∃ x, P i x) → ∃ xs : List Nat, xs.length = n ∧ ∀ i, i < n → P i (xs.getD i 0)
  | 0, _ => ⟨[], rfl, fun i hi => absurd hi (by omega)⟩
  | n + 1, h => by
    obtain ⟨xs, hl, hx⟩ := list_of n (fun i hi => h i (by omega))
    obtain ⟨x, hn⟩ := h n (by omega)
    refine ⟨xs ++ [x], by simp [hl], fun i hi => ?_⟩
    by_cases he : i = n
    · subst he
      simpa [List.getD_eq_getElem?_getD, ← hl] using hn
    · have := hx i (by omega)
      rw [List.getD_eq_getElem?_getD, List.getElem?_append_left (by omega), ← List.getD_eq_getElem?_getD]
      exact this

section
variable {H : Type} {enc : TypeId × Value → H} {P : Program} {w : World} {base : Nat} {spare : Nat → Bool} {held : Bool}
/-- a slice of structs of one-cell fields: each field's cell and its reading -/
theorem open_slice_fields {t e : TypeId} {fs : Array Field} {fuel : Nat} {cs : List Value} {x : DataW H × List MemPlace} (ht : P.underlying t = some (.slice e)) (he : P.underlying e = some (.struct fs))
    (hone : oneCellFields P fs = true) (hC : P.cellsOf e = fs.size) (h : DataW.trod enc P w base spare held fuel t cs = some x) :
    (cs = [.slice none 0 0] ∧ x = (.nil, [])) ∨
    ∃ (a : Addr) (len cap : Nat) (D : Nat → DataW H) (sps : List (DataW H)), cs = [.slice (some a) len cap] ∧ len ≤ cap ∧ x.1 = .slice ((List.range len).map D) sps ∧
      ∀ i, i < len → ∀ (j : Nat) (f : Field), fs[j]? = some f → ∃ (v : Value) (y : DataW H × List MemPlace) (n : Nat), w.cell? (a.add (i * fs.size + j)) = some v ∧ DataW.trod enc P w base spare held n f.type [v] = some y := by
  rcases open_slice ht h with h0 | ⟨a, len, cap, m, n, D, Pl, hcs, hb, hl, hm, hmm, hx, hi⟩
  · exact .inl h0
  · refine .inr ⟨a, len, cap, D, (List.range (m - len)).map (fun j => D (len + j)), hcs, hl, by rw [hx], fun i hil j f hj => ?_⟩
    have him : i < m := by rw [hmm]; split <;> omega
    obtain ⟨cs', hc, ht'⟩ := hi i him
    rw [hC] at hc
    obtain ⟨ys, n', hn', hy, hlen, hyl, hf⟩ := DataW.trod_struct he ht'
    obtain ⟨_, hcl, hat⟩ := World.cells?_some hc
    obtain ⟨ho, hk⟩ := hone_of hone j f hj
    have hjl : j < fs.size := (Array.getElem?_eq_some_iff.1 hj).1
    have hcell := hat j hjl
    have hv : cs'[j]? = some (cs'[j]'(by omega)) := List.getElem?_eq_getElem (by omega)
    have h1 := hf j f hj
    rw [ho, hk] at h1
    have hone' : (cs'.drop j).take 1 = [cs'[j]'(by omega)] := by
      rw [List.drop_eq_getElem_cons (by omega)]
      rfl
    rw [hone'] at h1
    have hys : ys[j]? = some (ys[j]'(by omega)) := List.getElem?_eq_getElem (by omega)
    refine ⟨_, _, _, ?_, h1.trans hys⟩
    rw [← Go.Deep.add_add, hcell, hv]
end

theorem open_points {H : Type} {enc : TypeId × Value → H} {W : World} {base : Nat} {sp : Nat → Bool} {held : Bool} {v : Value} {d : DataW H} {ps : List MemPlace} {a : Option Addr} {len cap : Nat} (hv : v = .slice a len cap)
    (h : DataW.Trod enc Try.prog W base sp held 112 v d ps) (hw : ∀ n ∈ d.weights Try.prog 112, n ≤ reachBytes) (hlt : ∀ x ∈ ps, x.block < W.heap.size) : ∃ xs ys, Pts W v xs ys := by
  subst hv
  obtain ⟨fuel, hf⟩ := h
  have hP : Try.prog.underlying 114 = some (.struct _) := Try.underlying114
  rcases open_slice_fields Try.underlying112 hP (by kernel_rfl) (by kernel_rfl) hf with ⟨hcs, _⟩ | ⟨x, l, c, D, sps, hcs, hl, hx, hi⟩
  · simp [Value.cells] at hcs
    obtain ⟨rfl, rfl, rfl⟩ := hcs
    exact ⟨[], [], rfl, by simp, by simp, by simp, none, 0, rfl, by simp, fun h => absurd h (by simp)⟩
  · simp [Value.cells] at hcs
    obtain ⟨rfl, rfl, rfl⟩ := hcs
    dsimp only at hx
    rw [hx] at hw
    have h16 : Try.prog.bytesOf 114 = 16 := by kernel_rfl
    simp only [DataW.weights, Try.underlying112] at hw
    have hs := hw _ (List.mem_cons_self ..)
    rw [h16] at hs
    simp only [List.length_map, List.length_range, reachBytes] at hs
    have each : ∀ j (f : Field), (j = 0 ∨ j = 1) → (f.type = 22) → (∀ i, i < len → ∃ (v : Value) (y : DataW H × List MemPlace) (n : Nat), W.cell? (x.add (i * 2 + j)) = some v ∧ DataW.trod enc Try.prog W base sp held n f.type [v] = some y) →
        ∃ xs : List Nat, xs.length = len ∧ ∀ i, i < len → W.cell? (x.add (i * 2 + j)) = some (.int .u64 (xs.getD i 0 : Nat)) ∧ xs.getD i 0 < 18446744073709551616 := by
      intro j f hj ht hall
      refine list_of (P := fun i z => W.cell? (x.add (i * 2 + j)) = some (.int .u64 (z : Nat)) ∧ z < 18446744073709551616) len (fun i hil => ?_)
      obtain ⟨v, y, n, hc, hy⟩ := hall i hil
      rw [ht] at hy
      obtain ⟨z, e, _, hwf⟩ := DataW.trod_int Try.underlying22 hy
      simp at e
      subst e
      have hb := bounds_u64 hwf
      obtain ⟨z', rfl⟩ := Int.eq_ofNat_of_zero_le hb.1
      exact ⟨z', hc, by omega⟩
    obtain ⟨xs, hxl, hxs⟩ := each 0 _ (.inl rfl) (by rfl) (fun i hil => hi i hil 0 _ rfl)
    obtain ⟨ys, hyl, hys⟩ := each 1 _ (.inr rfl) (by rfl) (fun i hil => hi i hil 1 _ rfl)
    refine ⟨xs, ys, by omega, by omega, ?_, ?_, some x, cap, by rw [hxl], by omega, fun h0 => ?_⟩
    · intro z hz
      obtain ⟨i, hi', rfl⟩ := List.getElem_of_mem hz
      have := (hxs i (by omega)).2
      rwa [M.getD_lt hi'] at this
    · intro z hz
      obtain ⟨i, hi', rfl⟩ := List.getElem_of_mem hz
      have := (hys i (by omega)).2
      rwa [M.getD_lt hi'] at this
    · obtain ⟨b, off, spot⟩ := x
      have hc0 := (hxs 0 (by omega)).1
      have hspot : spot = none := by simpa [Addr.add] using World.cell?_spot hc0
      subst hspot
      refine ⟨b, off, rfl, World.block_lt_of_cell? W _ hc0, fun i hil => ⟨?_, ?_⟩⟩
      · have := (hxs i (by omega)).1
        rw [Addr.add_lit] at this
        exact this
      · have := (hys i (by omega)).1
        rw [Addr.add_lit] at this
        exact this
end Go.Proofs.Ytfkepkdfpjaniaa
