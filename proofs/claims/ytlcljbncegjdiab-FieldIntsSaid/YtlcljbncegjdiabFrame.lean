/-
  Slices of numbers that came in, as 'Nums'.
-/
import Derived.Test.YtlcljbncegjdiabValid
import Derived.WalkKit
import Derived.ProofKit
import Derived.OpenShut
namespace Go.Proofs.Ytlcljbncegjdiab
open Go.ChangeShapes Go.WideShapes Go.ChangeAt Go.RowKit
set_option linter.unusedVariables false

theorem nums_row_nil (W : World) : ∃ zs, Nums W (.slice none 0 0) zs := ⟨[], by simp, by simp, .inl ⟨none, 0, rfl, rfl⟩⟩

theorem nums_row (W : World) (x : Addr) (len cap : Nat) (zs : List Int) (hl : len ≤ cap) (hz : zs.length = cap) (hcell : ∀ i, i < zs.length → W.cell? (x.add i) = some (.int .u64 (zs.getD i 0)))
    (hwz : ∀ n ∈ zs, (Lit.int .u64 n).wf = true) (hs : len * 8 ≤ 140737488351232) : ∃ ns, Nums W (.slice (some x) len cap) ns := by
  refine ⟨(zs.take len).map Int.toNat, ?_, ?_, ?_⟩
  · intro n hn
    obtain ⟨z, hz', rfl⟩ := List.mem_map.1 hn
    have := bounds_u64 (hwz z (List.mem_of_mem_take hz'))
    omega
  · simp; omega
  · by_cases h0 : len = 0
    · subst h0; exact .inl ⟨_, _, rfl, by simp⟩
    · right
      obtain ⟨b, off, spot⟩ := x
      have hc := hcell 0 (by omega)
      have hspot : spot = none := by simpa [Addr.add] using World.cell?_spot hc
      subst hspot
      have hln : ((zs.take len).map Int.toNat).length = len := by simp; omega
      refine ⟨b, off, cap, by rw [hln], by omega, ?_, ?_⟩
      · have := World.block_lt_of_cell? W _ hc
        simpa [Addr.add] using this
      · intro i hi
        rw [hln] at hi
        have h := hcell i (by omega)
        rw [Addr.add_lit] at h
        rw [h]
        have hi2 : i < zs.length := by omega
        have hb := bounds_u64 (hwz zs[i] (List.getElem_mem hi2))
        simp [List.getD_eq_getElem?_getD, hi, hi2]
        omega
end Go.Proofs.Ytlcljbncegjdiab
