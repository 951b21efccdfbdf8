/-
  Slices of signed integers as lists.
-/
import Derived.Test.YtgoognipljknjaaRow
import Derived.SizedLaws
import Derived.Deep.Slices
import Derived.Deep.Fields
import Derived.Deep.Strs
import Derived.ChangeSame
import Derived.WalkKit
import Derived.ProofKit
import Derived.OpenShut
namespace Go.Proofs.Ytgoognipljknjaa
open Go.ChangeShapes Go.WideShapes Go.ChangeAt Go.RowKit Go.Deep
set_option linter.unusedVariables false
set_option maxRecDepth 100000

/-- the slice value v reads as the signed integers zs -/
def IntsZ (w : World) (v : Value) (zs : List Int) : Prop :=
  (∀ n ∈ zs, -9223372036854775808 ≤ n ∧ n ≤ 9223372036854775807) ∧ zs.length ≤ 17592186043904 ∧ ∃ A cap, v = .slice A zs.length cap ∧ zs.length ≤ cap ∧
    (0 < zs.length → ∃ b off, A = some ⟨b, off, none⟩ ∧ b < w.heap.size ∧ ∀ i, i < zs.length → w.cell? ⟨b, off + i, none⟩ = some (.int .i64 (zs.getD i 0)))

theorem IntsZ.below {w w' : World} {v : Value} {zs : List Int} (h : IntsZ w v zs) (hb : Below w.heap.size w w') : IntsZ w' v zs := by
  obtain ⟨h1, h2, A, cap, e, hc, h3⟩ := h
  refine ⟨h1, h2, A, cap, e, hc, fun h0 => ?_⟩
  obtain ⟨b, off, eA, hl, hcell⟩ := h3 h0
  exact ⟨b, off, eA, Nat.lt_of_lt_of_le hl hb.size, fun i hi => (hb.cell (p := ⟨b, off + i, none⟩) hl).trans (hcell i hi)⟩

theorem intsZ_nil (W : World) : IntsZ W (.slice none 0 0) [] := ⟨by simp, by simp, none, 0, rfl, by simp, fun h => absurd h (by simp)⟩

theorem intsZ_row (W : World) (x : Addr) (len cap : Nat) (zs : List Int) (hl : len ≤ cap) (hz : zs.length = cap) (hcell : ∀ i, i < zs.length → W.cell? (x.add i) = some (.int .i64 (zs.getD i 0)))
    (hwz : ∀ n ∈ zs, (Lit.int .i64 n).wf = true) (hs : len * 8 ≤ 140737488351232) : ∃ ns, IntsZ W (.slice (some x) len cap) ns := by
  have hln : (zs.take len).length = len := by simp; omega
  refine ⟨zs.take len, fun n hn => ?_, by omega, some x, cap, by rw [hln], by omega, fun h0 => ?_⟩
  · exact bounds_i64 (hwz n (List.mem_of_mem_take hn))
  · obtain ⟨b, off, spot⟩ := x
    have hc := hcell 0 (by omega)
    have hspot : spot = none := by simpa [Addr.add] using World.cell?_spot hc
    subst hspot
    refine ⟨b, off, rfl, ?_, fun i hi => ?_⟩
    · have := World.block_lt_of_cell? W _ hc
      simpa [Addr.add] using this
    · rw [hln] at hi
      have h := hcell i (by omega)
      rw [Addr.add_lit] at h
      rw [h]
      simp [List.getD_eq_getElem?_getD, hi]

/-! ### What came in, cell by cell -/
theorem u64_of_trod {H : Type} {enc : TypeId × Value → H} {W : World} {base : Nat} {sp : Nat → Bool} {held : Bool} {fuel : Nat} {c : Value} {y : DataW H × List MemPlace}
    (h : DataW.trod enc Try.prog W base sp held fuel 22 [c] = some y) : ∃ n : Nat, c = .int .u64 n ∧ n < 18446744073709551616 := by
  obtain ⟨z, e, _, hwf⟩ := DataW.trod_int Try.underlying22 h
  simp at e
  subst e
  have hb := bounds_u64 hwf
  obtain ⟨z', rfl⟩ := Int.eq_ofNat_of_zero_le hb.1
  exact ⟨z', rfl, by omega⟩
theorem int_of_trod {H : Type} {enc : TypeId × Value → H} {W : World} {base : Nat} {sp : Nat → Bool} {held : Bool} {fuel : Nat} {c : Value} {y : DataW H × List MemPlace}
    (h : DataW.trod enc Try.prog W base sp held fuel 3 [c] = some y) : ∃ n : Int, c = .int .i64 n ∧ -9223372036854775808 ≤ n ∧ n ≤ 9223372036854775807 := by
  obtain ⟨z, e, _, hwf⟩ := DataW.trod_int Try.underlying3 h
  simp at e
  subst e
  exact ⟨z, rfl, bounds_i64 hwf⟩
theorem intsZ_of_trod {H : Type} {enc : TypeId × Value → H} {W : World} {base : Nat} {held : Bool} {fuel : Nat} {c : Value} {y : DataW H × List MemPlace}
    (h : DataW.trod enc Try.prog W base (fun _ => true) held fuel 33 [c] = some y) (hw : ∀ n ∈ y.1.weights Try.prog 33, n ≤ reachBytes) : ∃ zs, IntsZ W c zs := by
  rcases open_ints Try.underlying33 Try.underlying3 (by kernel_rfl) h with ⟨hcs, _⟩ | ⟨x, l, cp, zs, hcs, _, hl, hm, hz, hx, hcell, hwz⟩
  · simp at hcs
    subst hcs
    exact ⟨[], intsZ_nil W⟩
  · simp at hcs
    subst hcs
    have hs : l * 8 ≤ 140737488351232 := by
      rw [hx] at hw
      have h8 : Try.prog.bytesOf 3 = 8 := by kernel_rfl
      simp only [DataW.weights, Try.underlying33] at hw
      have := hw _ (List.mem_cons_self ..)
      rw [h8] at this
      simp only [lits, List.length_map, List.length_take, List.length_drop, reachBytes] at this
      simp at hz
      omega
    exact intsZ_row W x _ _ zs hl (by simpa using hz) hcell hwz hs

/-- a setup's value -/
def suV (P : Nat) (n t : Int) : Value := .agg #[.int .u64 P, .int .i64 n, .int .i64 t]

theorem cells3 {l : List Value} (h : l.length = 3) : ∃ a b c, l = [a, b, c] := by
  match l, h with
  | [a, b, c], _ => exact ⟨a, b, c, rfl⟩
theorem cells2 {l : List Value} (h : l.length = 2) : ∃ a b, l = [a, b] := by
  match l, h with
  | [a, b], _ => exact ⟨a, b, rfl⟩

theorem open_setup {H : Type} {enc : TypeId × Value → H} {W : World} {base b0 : Nat} {sp : Nat → Bool} {held : Bool} {r : Reach} {v : Value} {d : DataW H} {ps : List MemPlace}
    (hv : Value.okWide Try.prog W r b0 40 v) (h : DataW.Trod enc Try.prog W base sp held 40 v d ps) :
    ∃ (P : Nat) (n t : Int), v = suV P n t ∧ P < 18446744073709551616 ∧ (-9223372036854775808 ≤ n ∧ n ≤ 9223372036854775807) ∧ -9223372036854775808 ≤ t ∧ t ≤ 9223372036854775807 := by
  obtain ⟨cs, rfl, hsz, _⟩ : ∃ cs, v = .agg cs ∧ cs.size = Try.prog.cellsOf 40 ∧ Row.okWide Try.prog W r b0 40 cs := by simpa [Value.okWide, Try.underlying40] using hv
  obtain ⟨l⟩ := cs
  obtain ⟨fuel, hf⟩ := h
  obtain ⟨y0, y1, y2, m, _, hl, h0, h1, h2⟩ := trod_struct3 Try.underlying40 hf
  rw [show Try.prog.cellsOf 40 = 3 by kernel_rfl] at hsz
  obtain ⟨c0, c1, c2, rfl⟩ := cells3 (l := l) (by simpa using hsz)
  rw [show Try.prog.cellsOf 22 = 1 by kernel_rfl] at h0
  rw [show Try.prog.cellsOf 3 = 1 by kernel_rfl] at h1 h2
  obtain ⟨P, rfl, hP⟩ := u64_of_trod (by simpa [Value.cells] using h0)
  obtain ⟨n, rfl, hn⟩ := int_of_trod (by simpa [Value.cells] using h1)
  obtain ⟨t, rfl, ht⟩ := int_of_trod (by simpa [Value.cells] using h2)
  exact ⟨P, n, t, rfl, hP, hn, ht⟩
end Go.Proofs.Ytgoognipljknjaa
