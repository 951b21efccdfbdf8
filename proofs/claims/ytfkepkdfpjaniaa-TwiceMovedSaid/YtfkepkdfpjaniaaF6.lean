/-
  Arguments that came in: a matrix, a degree and a matrix, a secret with its tape, a factor and a polynomial, rows with their places.
-/
import Derived.Test.YtfkepkdfpjaniaaFR
import Derived.Test.YtfkepkdfpjaniaaXA
import Derived.Deep.Slices
import Derived.Deep.Fields
import Derived.Deep.Matrix
import Derived.ChangeSame
namespace Go.Proofs.Ytfkepkdfpjaniaa
open Go.ChangeShapes Go.WideShapes Go.ChangeAt Go.RowKit Go.Deep
set_option linter.unusedVariables false
set_option maxRecDepth 100000


theorem mem_weightsAll {H : Type} {P : Program} {e : TypeId} {d : DataW H} {n : Nat} : ∀ l : List (DataW H), d ∈ l → n ∈ d.weights P e → n ∈ DataW.weightsAll P e l
  | [], h, _ => by cases h
  | x :: l, h, hn => by
    rw [DataW.weightsAll]
    rcases List.mem_cons.1 h with rfl | h
    · exact List.mem_append_left _ hn
    · exact List.mem_append_right _ (mem_weightsAll l h hn)

theorem listL_of {P : Nat → List Nat → Prop} : ∀ n : Nat, (∀ i, i < n → ∃ x, P i x) → ∃ xs : List (List Nat), xs.length = n ∧ ∀ i, i < n → P i (xs.getD i [])
  | 0, _ => ⟨[], rfl, fun i hi => absurd hi (by omega)⟩
  | n + 1, h => by
    obtain ⟨xs, hl, hx⟩ := listL_of n (fun i hi => h i (by omega))
    obtain ⟨x, hn⟩ := h n (by omega)
    refine ⟨xs ++ [x], by simp [hl], fun i hi => ?_⟩
    by_cases he : i = n
    · subst he
      simpa [List.getD_eq_getElem?_getD, ← hl] using hn
    · have := hx i (by omega)
      rw [List.getD_eq_getElem?_getD, List.getElem?_append_left (by omega), ← List.getD_eq_getElem?_getD]
      exact this

theorem open_mat {H : Type} {enc : TypeId × Value → H} {W : World} {base : Nat} {held : Bool} {v : Value} {d : DataW H} {ps : List MemPlace} {a : Option Addr} {len cap : Nat} (hv : v = .slice a len cap)
    (h : DataW.Trod enc Try.prog W base (fun _ => true) held 25 v d ps) (hw : ∀ n ∈ d.weights Try.prog 25, n ≤ reachBytes) : ∃ m, Mat W v m := by
  subst hv
  obtain ⟨fuel, hf⟩ := h
  rcases open_int_rows Try.underlying25 Try.underlying31 Try.underlying22 (by kernel_rfl) (by kernel_rfl) hf with ⟨hcs, _⟩ | ⟨x, l, c, A, L, C, Z, hcs, hb, hl, hm, hx, hrow⟩
  · simp [Value.cells] at hcs
    obtain ⟨rfl, rfl, rfl⟩ := hcs
    exact ⟨[], mat_nil W⟩
  · simp [Value.cells] at hcs
    obtain ⟨rfl, rfl, rfl⟩ := hcs
    simp only [Prod.mk.injEq] at hx
    rw [hx.1] at hw
    have h24 : Try.prog.bytesOf 31 = 24 := by kernel_rfl
    have h8 : Try.prog.bytesOf 22 = 8 := by kernel_rfl
    simp only [DataW.weights, Try.underlying25] at hw
    have ho := hw _ (List.mem_cons_self ..)
    rw [h24] at ho
    simp only [List.length_map, List.length_range, reachBytes] at ho
    have each : ∀ r, r < len → ∃ zs, Nums W (.slice (A r) (L r) (C r)) zs := by
      intro r hr
      obtain ⟨hcell, hLC, hCm, hZ, hwf, hnil, hsome⟩ := hrow r (by omega)
      cases hA : A r with
      | none =>
        have hC0 := hnil hA
        have hL0 : L r = 0 := by omega
        rw [hC0, hL0]
        exact ⟨[], nums_row_nil' W⟩
      | some a' =>
        obtain ⟨_, hc⟩ := hsome a' hA
        have hmem : (intRow .u64 (A r) (L r) (Z r) : DataW H) ∈ (List.range len).map fun r => intRow .u64 (A r) (L r) (Z r) := List.mem_map.2 ⟨r, List.mem_range.2 hr, rfl⟩
        have hbyte : L r * 8 ≤ 140737488351232 := by
          have h1 : ((lits .u64 ((Z r).take (L r)) : List (DataW H)).length + (lits .u64 ((Z r).drop (L r)) : List (DataW H)).length) * 8 ∈ (intRow .u64 (A r) (L r) (Z r) : DataW H).weights Try.prog 31 := by
            unfold intRow
            rw [hA]
            simp only [DataW.weights, Try.underlying31]
            rw [h8]
            exact List.mem_cons_self ..
          have h2 := hw _ (List.mem_cons_of_mem _ (List.mem_append_left _ (mem_weightsAll _ hmem h1)))
          simp only [lits, List.length_map, List.length_take, List.length_drop, reachBytes] at h2
          omega
        exact nums_row W a' _ _ (Z r) hLC hZ (fun i hi => hc i (by omega)) hwf hbyte
    obtain ⟨m, hml, hmr⟩ := listL_of (P := fun i zs => Nums W (.slice (A i) (L i) (C i)) zs) len each
    refine ⟨m, by omega, some x, cap, by rw [hml], by omega, fun h0 => ?_⟩
    obtain ⟨b, off, spot⟩ := x
    have hc0 := (hrow 0 (by omega)).1
    have hspot : spot = none := by simpa [Addr.add] using World.cell?_spot hc0
    subst hspot
    refine ⟨b, off, rfl, World.block_lt_of_cell? W _ hc0, fun i hi => ⟨_, ?_, hmr i (by omega)⟩⟩
    have := (hrow i (by omega)).1
    rw [Addr.add_lit] at this
    exact this

theorem u64_of_trod {H : Type} {enc : TypeId × Value → H} {W : World} {base : Nat} {sp : Nat → Bool} {held : Bool} {fuel : Nat} {c : Value} {y : DataW H × List MemPlace}
    (h : DataW.trod enc Try.prog W base sp held fuel 22 [c] = some y) : ∃ n : Nat, c = .int .u64 n ∧ n < 18446744073709551616 := by
  obtain ⟨z, e, _, hwf⟩ := DataW.trod_int Try.underlying22 h
  simp at e
  subst e
  have hb := bounds_u64 hwf
  obtain ⟨z', rfl⟩ := Int.eq_ofNat_of_zero_le hb.1
  exact ⟨z', rfl, by omega⟩

theorem int_of_trod {H : Type} {enc : TypeId × Value → H} {W : World} {base : Nat} {sp : Nat → Bool} {held : Bool} {fuel : Nat} {c : Value} {y : DataW H × List MemPlace}
    (h : DataW.trod enc Try.prog W base sp held fuel 3 [c] = some y) : ∃ n : Int, c = .int .i64 n ∧ -9223372036854775808 ≤ n ∧ n ≤ 9223372036854775807 := by
  obtain ⟨z, e, _, hwf⟩ := DataW.trod_int Try.underlying3 h
  simp at e
  subst e
  exact ⟨z, rfl, bounds_i64 hwf⟩

theorem agg_of6 {W : World} {b0 : Nat} {T : TypeId} {r : Reach} {v : Value} {fs : Array Field} (hT : Try.prog.underlying T = some (.struct fs)) (hv : Value.okWide Try.prog W r b0 T v) : ∃ l : List Value, v = .agg l.toArray := by
  obtain ⟨cs, rfl, hsz, _⟩ : ∃ cs, v = .agg cs ∧ cs.size = Try.prog.cellsOf T ∧ Row.okWide Try.prog W r b0 T cs := by simpa [Value.okWide, hT] using hv
  exact ⟨cs.toList, by simp⟩

theorem mat_of_trod {H : Type} {enc : TypeId × Value → H} {W : World} {base : Nat} {held : Bool} {fuel : Nat} {c : Value} {y : DataW H × List MemPlace}
    (h : DataW.trod enc Try.prog W base (fun _ => true) held fuel 25 [c] = some y) (hw : ∀ n ∈ y.1.weights Try.prog 25, n ≤ reachBytes) : ∃ m, Mat W c m := by
  obtain ⟨a, len, cap, rfl⟩ : ∃ a len cap, c = .slice a len cap := by
    rcases open_slice Try.underlying25 h with ⟨hcs, _⟩ | ⟨a, len, cap, m, n, D, Pl, hcs, _⟩
    · simp at hcs
      exact ⟨_, _, _, hcs⟩
    · simp at hcs
      exact ⟨_, _, _, hcs⟩
  exact open_mat (d := y.1) (ps := y.2) rfl ⟨fuel, by simpa [Value.cells] using h⟩ hw

end Go.Proofs.Ytfkepkdfpjaniaa
