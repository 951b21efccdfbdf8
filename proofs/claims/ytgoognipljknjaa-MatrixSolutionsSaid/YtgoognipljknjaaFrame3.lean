/-
  Arguments that came in: a slice of slices of numbers, as 'Mat'.
-/
import Derived.Test.YtgoognipljknjaaFrame
import Derived.Test.YtgoognipljknjaaMem3
import Derived.SizedLaws
import Derived.Deep.Slices
import Derived.Deep.Matrix
import Derived.ChangeSame
namespace Go.Proofs.Ytgoognipljknjaa
open Go.ChangeShapes Go.WideShapes Go.ChangeAt Go.RowKit Go.Deep
set_option linter.unusedVariables false

theorem mem_weightsAll {H : Type} {P : Program} {e : TypeId} {d : DataW H} {n : Nat} : ∀ l : List (DataW H), d ∈ l → n ∈ d.weights P e → n ∈ DataW.weightsAll P e l
  | [], h, _ => by cases h
  | x :: l, h, hn => by
    rw [DataW.weightsAll]
    rcases List.mem_cons.1 h with rfl | h
    · exact List.mem_append_left _ hn
    · exact List.mem_append_right _ (mem_weightsAll l h hn)

theorem listL_of {P : Nat → List Nat → Prop} : ∀ n : Nat, (∀ i, i < n → ∃ x, P i x) → ∃ xs : List (List Nat), xs.length = n ∧ ∀ i, i < n → P i (xs.getD i [])
  | 0, _ => ⟨[], rfl, fun i hi => absurd hi (by omega)⟩
  | n + 1, h => by
    obtain ⟨xs, hl, hx⟩ := listL_of n (fun i hi => h i (by omega))
    obtain ⟨x, hn⟩ := h n (by omega)
    refine ⟨xs ++ [x], by simp [hl], fun i hi => ?_⟩
    by_cases he : i = n
    · subst he
      simpa [List.getD_eq_getElem?_getD, ← hl] using hn
    · have := hx i (by omega)
      rw [List.getD_eq_getElem?_getD, List.getElem?_append_left (by omega), ← List.getD_eq_getElem?_getD]
      exact this

theorem open_mat {H : Type} {enc : TypeId × Value → H} {W : World} {base : Nat} {held : Bool} {v : Value} {d : DataW H} {ps : List MemPlace} {a : Option Addr} {len cap : Nat} (hv : v = .slice a len cap)
    (h : DataW.Trod enc Try.prog W base (fun _ => true) held 23 v d ps) (hw : ∀ n ∈ d.weights Try.prog 23, n ≤ reachBytes) : ∃ m, Mat W v m := by
  subst hv
  obtain ⟨fuel, hf⟩ := h
  rcases open_int_rows Try.underlying23 Try.underlying24 Try.underlying22 (by kernel_rfl) (by kernel_rfl) hf with ⟨hcs, _⟩ | ⟨x, l, c, A, L, C, Z, hcs, hb, hl, hm, hx, hrow⟩
  · simp [Value.cells] at hcs
    obtain ⟨rfl, rfl, rfl⟩ := hcs
    exact ⟨[], mat_nil W⟩
  · simp [Value.cells] at hcs
    obtain ⟨rfl, rfl, rfl⟩ := hcs
    simp only [Prod.mk.injEq] at hx
    rw [hx.1] at hw
    have h24 : Try.prog.bytesOf 24 = 24 := by kernel_rfl
    have h8 : Try.prog.bytesOf 22 = 8 := by kernel_rfl
    simp only [DataW.weights, Try.underlying23] at hw
    have ho := hw _ (List.mem_cons_self ..)
    rw [h24] at ho
    simp only [List.length_map, List.length_range, reachBytes] at ho
    have each : ∀ r, r < len → ∃ zs, Nums W (.slice (A r) (L r) (C r)) zs := by
      intro r hr
      obtain ⟨hcell, hLC, hCm, hZ, hwf, hnil, hsome⟩ := hrow r (by omega)
      cases hA : A r with
      | none =>
        have hC0 := hnil hA
        have hL0 : L r = 0 := by omega
        rw [hC0, hL0]
        exact ⟨[], nums_row_nil' W⟩
      | some a' =>
        obtain ⟨_, hc⟩ := hsome a' hA
        have hmem : (intRow .u64 (A r) (L r) (Z r) : DataW H) ∈ (List.range len).map fun r => intRow .u64 (A r) (L r) (Z r) := List.mem_map.2 ⟨r, List.mem_range.2 hr, rfl⟩
        have hbyte : L r * 8 ≤ 140737488351232 := by
          have h1 : ((lits .u64 ((Z r).take (L r)) : List (DataW H)).length + (lits .u64 ((Z r).drop (L r)) : List (DataW H)).length) * 8 ∈ (intRow .u64 (A r) (L r) (Z r) : DataW H).weights Try.prog 24 := by
            unfold intRow
            rw [hA]
            simp only [DataW.weights, Try.underlying24]
            rw [h8]
            exact List.mem_cons_self ..
          have h2 := hw _ (List.mem_cons_of_mem _ (List.mem_append_left _ (mem_weightsAll _ hmem h1)))
          simp only [lits, List.length_map, List.length_take, List.length_drop, reachBytes] at h2
          omega
        exact nums_row W a' _ _ (Z r) hLC hZ (fun i hi => hc i (by omega)) hwf hbyte
    obtain ⟨m, hml, hmr⟩ := listL_of (P := fun i zs => Nums W (.slice (A i) (L i) (C i)) zs) len each
    refine ⟨m, by omega, some x, cap, by rw [hml], by omega, fun h0 => ?_⟩
    obtain ⟨b, off, spot⟩ := x
    have hc0 := (hrow 0 (by omega)).1
    have hspot : spot = none := by simpa [Addr.add] using World.cell?_spot hc0
    subst hspot
    refine ⟨b, off, rfl, World.block_lt_of_cell? W _ hc0, fun i hi => ⟨_, ?_, hmr i (by omega)⟩⟩
    have := (hrow i (by omega)).1
    rw [Addr.add_lit] at this
    exact this
end Go.Proofs.Ytgoognipljknjaa
