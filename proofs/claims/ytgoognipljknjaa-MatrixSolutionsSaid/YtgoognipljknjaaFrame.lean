/-
  Slices of numbers that came in, as 'Nums'.
-/
import Derived.Test.YtgoognipljknjaaValid
import Derived.WalkKit
import Derived.ProofKit
import Derived.OpenShut
namespace Go.Proofs.Ytgoognipljknjaa
open Go.ChangeShapes Go.WideShapes Go.ChangeAt Go.RowKit
set_option linter.unusedVariables false

theorem nums_row_nil (W : World) : ∃ zs, Nums W (.slice none 0 0) zs := ⟨[], by simp, by simp, .inl ⟨none, 0, rfl, rfl, fun _ => rfl⟩⟩

theorem nums_row_nil' (W : World) : Nums W (.slice none 0 0) [] := ⟨by simp, by simp, .inl ⟨none, 0, rfl, rfl, fun _ => rfl⟩⟩
theorem nums_row' (W : World) (x : Addr) (len cap : Nat) (zs : List Int) (hl : len ≤ cap) (hz : zs.length = cap) (hcell : ∀ i, i < zs.length → W.cell? (x.add i) = some (.int .u64 (zs.getD i 0)))
    (hwz : ∀ n ∈ zs, (Lit.int .u64 n).wf = true) (hs : len * 8 ≤ 140737488351232) : ∃ ns, Nums W (.slice (some x) len cap) ns ∧ ns.length = len := by
  refine ⟨(zs.take len).map Int.toNat, ⟨?_, ?_, ?_⟩, by simp; omega⟩
  · intro n hn
    obtain ⟨z, hz', rfl⟩ := List.mem_map.1 hn
    have := bounds_u64 (hwz z (List.mem_of_mem_take hz'))
    omega
  · simp; omega
  · by_cases h0 : len = 0
    · subst h0; exact .inl ⟨_, _, rfl, by simp, by simp⟩
    · right
      obtain ⟨b, off, spot⟩ := x
      have hc := hcell 0 (by omega)
      have hspot : spot = none := by simpa [Addr.add] using World.cell?_spot hc
      subst hspot
      have hln : ((zs.take len).map Int.toNat).length = len := by simp; omega
      refine ⟨b, off, cap, by rw [hln], by omega, ?_, ?_⟩
      · have := World.block_lt_of_cell? W _ hc
        simpa [Addr.add] using this
      · intro i hi
        rw [hln] at hi
        have h := hcell i (by omega)
        rw [Addr.add_lit] at h
        rw [h]
        have hi2 : i < zs.length := by omega
        have hb := bounds_u64 (hwz zs[i] (List.getElem_mem hi2))
        simp [List.getD_eq_getElem?_getD, hi, hi2]
        omega

theorem nums_row (W : World) (x : Addr) (len cap : Nat) (zs : List Int) (hl : len ≤ cap) (hz : zs.length = cap) (hcell : ∀ i, i < zs.length → W.cell? (x.add i) = some (.int .u64 (zs.getD i 0)))
    (hwz : ∀ n ∈ zs, (Lit.int .u64 n).wf = true) (hs : len * 8 ≤ 140737488351232) : ∃ ns, Nums W (.slice (some x) len cap) ns := by
  obtain ⟨ns, h, _⟩ := nums_row' W x len cap zs hl hz hcell hwz hs
  exact ⟨ns, h⟩

/-- an array of integers that came in by value: its cells -/
theorem open_array {H : Type} {enc : TypeId × Value → H} {P : Program} {W : World} {base b0 : Nat} {sp : Nat → Bool} {held : Bool} {T E : TypeId} {k : IntKind} {n : Nat} {r : Reach} {v : Value} {d : DataW H} {ps : List MemPlace}
    (hT : P.underlying T = some (.array n E)) (hE : P.underlying E = some (.int k)) (hCT : P.cellsOf T = n) (hCE : P.cellsOf E = 1) (hv : Value.okWide P W r b0 T v) (h : DataW.Trod enc P W base sp held T v d ps) :
    ∃ zs : List Int, zs.length = n ∧ v = .agg (zs.map (Value.int k)).toArray ∧ ∀ z ∈ zs, (Lit.int k z).wf = true := by
  obtain ⟨cs, rfl, hsz, _⟩ : ∃ cs, v = .agg cs ∧ cs.size = P.cellsOf T ∧ Row.okWide P W r b0 T cs := by simpa [Value.okWide, hT] using hv
  obtain ⟨l⟩ := cs
  obtain ⟨fuel, hf⟩ := h
  obtain ⟨xs, m, _, _, _, hlen, hx⟩ := DataW.trod_array hT hf
  have hl : l.length = n := by rw [hCT] at hsz; simpa using hsz
  have each : ∀ i, i < n → ∃ z, l[i]? = some (.int k z) ∧ (Lit.int k z).wf = true := by
    intro i hi
    have h1 := hx i hi
    rw [hCE, Nat.mul_one] at h1
    have h2 : xs[i]? = some xs[i] := List.getElem?_eq_getElem (by omega)
    rw [h2] at h1
    obtain ⟨z, e, _, hw⟩ := DataW.trod_int hE h1
    refine ⟨z, ?_, hw⟩
    have e2 := congrArg (fun l => l[0]?) e
    simpa [Value.cells] using e2
  refine ⟨l.map fun v => intOf v, by simpa using hl, ?_, ?_⟩
  · congr 1
    congr 1
    apply List.ext_getElem?
    intro i
    by_cases hi : i < n
    · obtain ⟨z, hz, _⟩ := each i hi
      simp [hz, intOf]
    · rw [List.getElem?_eq_none (by omega), List.getElem?_eq_none (by simp; omega)]
  · intro z hz
    obtain ⟨v, hv, rfl⟩ := List.mem_map.1 hz
    obtain ⟨i, hi, rfl⟩ := List.mem_iff_getElem.1 hv
    obtain ⟨z, hz, hw⟩ := each i (by omega)
    rw [List.getElem?_eq_getElem hi] at hz
    simp at hz
    rw [hz]; exact hw

theorem len2 {α : Type} {l : List α} (h : l.length = 2) : ∃ a b, l = [a, b] := by
  match l, h with
  | [a, b], _ => exact ⟨a, b, rfl⟩
theorem len3 {α : Type} {l : List α} (h : l.length = 3) : ∃ a b c, l = [a, b, c] := by
  match l, h with
  | [a, b, c], _ => exact ⟨a, b, c, rfl⟩
end Go.Proofs.Ytgoognipljknjaa
