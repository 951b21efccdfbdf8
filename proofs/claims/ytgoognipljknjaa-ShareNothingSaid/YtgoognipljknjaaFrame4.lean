/-
  Arguments that came in: the structs of layer 4's laws.
-/
import Derived.Test.YtgoognipljknjaaFrame2
import Derived.Test.YtgoognipljknjaaIntsZ
namespace Go.Proofs.Ytgoognipljknjaa
open Go.ChangeShapes Go.WideShapes Go.ChangeAt Go.RowKit Go.Deep
set_option linter.unusedVariables false
set_option maxRecDepth 100000

theorem agg_of {W : World} {b0 : Nat} {T : TypeId} {r : Reach} {v : Value} {fs : Array Field} (hT : Try.prog.underlying T = some (.struct fs)) (hv : Value.okWide Try.prog W r b0 T v) : ∃ l : List Value, v = .agg l.toArray := by
  obtain ⟨cs, rfl, hsz, _⟩ : ∃ cs, v = .agg cs ∧ cs.size = Try.prog.cellsOf T ∧ Row.okWide Try.prog W r b0 T cs := by simpa [Value.okWide, hT] using hv
  exact ⟨cs.toList, by simp⟩
theorem agg_of_array {W : World} {b0 n : Nat} {T E : TypeId} {r : Reach} {v : Value} (hT : Try.prog.underlying T = some (.array n E)) (hv : Value.okWide Try.prog W r b0 T v) : ∃ l : List Value, v = .agg l.toArray := by
  obtain ⟨cs, rfl, hsz, _⟩ : ∃ cs, v = .agg cs ∧ cs.size = Try.prog.cellsOf T ∧ Row.okWide Try.prog W r b0 T cs := by simpa [Value.okWide, hT] using hv
  exact ⟨cs.toList, by simp⟩

theorem secret_of_cells {H : Type} {enc : TypeId × Value → H} {W : World} {base : Nat} {held : Bool} {fuel : Nat} {cs : List Value} {y : DataW H × List MemPlace}
    (h : DataW.trod enc Try.prog W base (fun _ => true) held fuel 45 cs = some y) (hw : ∀ n ∈ y.1.weights Try.prog 45, n ≤ reachBytes) :
    ∃ (a : Nat) (d : Int) (vt : Value) (zs : List Nat), cs = [.int .u64 a, .int .i64 d, vt] ∧ a < 18446744073709551616 ∧ (-9223372036854775808 ≤ d ∧ d ≤ 9223372036854775807) ∧ Nums W vt zs := by
  obtain ⟨y0, y1, y2, m, rfl, hl, h0, h1, h2⟩ := trod_struct3 Try.underlying45 h
  rw [show Try.prog.cellsOf 45 = 3 by kernel_rfl] at hl
  obtain ⟨c0, c1, c2, rfl⟩ := cells3 hl
  rw [show Try.prog.cellsOf 22 = 1 by kernel_rfl] at h0
  rw [show Try.prog.cellsOf 3 = 1 by kernel_rfl] at h1
  rw [show Try.prog.cellsOf 24 = 1 by kernel_rfl] at h2
  obtain ⟨a, rfl, ha⟩ := u64_of_trod (by simpa [Value.cells] using h0)
  obtain ⟨d, rfl, hd⟩ := int_of_trod (by simpa [Value.cells] using h1)
  simp only [DataW.weights, Try.underlying45, List.map_cons, List.map_nil, DataW.weightsEach, List.append_nil, List.mem_append] at hw
  obtain ⟨zs, hN⟩ := nums_of_trod (by simpa [Value.cells] using h2) (fun n hn => hw n (.inr (.inr hn)))
  exact ⟨a, d, _, zs, rfl, ha, hd, hN⟩

theorem open_secret {H : Type} {enc : TypeId × Value → H} {W : World} {base b0 : Nat} {held : Bool} {r : Reach} {v : Value} {d : DataW H} {ps : List MemPlace}
    (hv : Value.okWide Try.prog W r b0 45 v) (h : DataW.Trod enc Try.prog W base (fun _ => true) held 45 v d ps)
    (hw : ∀ n ∈ d.weights Try.prog 45, n ≤ reachBytes) :
    ∃ (a : Nat) (d : Int) (vt : Value) (zs : List Nat), v = .agg #[.int .u64 a, .int .i64 d, vt] ∧ a < 18446744073709551616 ∧ (-9223372036854775808 ≤ d ∧ d ≤ 9223372036854775807) ∧ Nums W vt zs := by
  obtain ⟨l, rfl⟩ := agg_of Try.underlying45 hv
  obtain ⟨fuel, hf⟩ := h
  obtain ⟨a, d, vt, zs, e, ha, hd, hN⟩ := secret_of_cells hf hw
  have e' : l = [.int .u64 a, .int .i64 d, vt] := by simpa [Value.cells] using e
  exact ⟨a, d, vt, zs, by rw [e'], ha, hd, hN⟩

theorem mover_of_cells {H : Type} {enc : TypeId × Value → H} {W : World} {base : Nat} {held : Bool} {fuel : Nat} {cs : List Value} {y : DataW H × List MemPlace}
    (h : DataW.trod enc Try.prog W base (fun _ => true) held fuel 75 cs = some y) (hw : ∀ n ∈ y.1.weights Try.prog 75, n ≤ reachBytes) :
    ∃ (vf vc : Value) (f : List Nat) (c : List Int) (a : Nat), cs = [vf, vc, .int .u64 a] ∧ Nums W vf f ∧ IntsZ W vc c ∧ a < 18446744073709551616 := by
  obtain ⟨y0, y1, y2, m, rfl, hl, h0, h1, h2⟩ := trod_struct3 Try.underlying75 h
  rw [show Try.prog.cellsOf 75 = 3 by kernel_rfl] at hl
  obtain ⟨c0, c1, c2, rfl⟩ := cells3 hl
  rw [show Try.prog.cellsOf 24 = 1 by kernel_rfl] at h0
  rw [show Try.prog.cellsOf 33 = 1 by kernel_rfl] at h1
  rw [show Try.prog.cellsOf 22 = 1 by kernel_rfl] at h2
  obtain ⟨a, rfl, ha⟩ := u64_of_trod (by simpa [Value.cells] using h2)
  simp only [DataW.weights, Try.underlying75, List.map_cons, List.map_nil, DataW.weightsEach, List.append_nil, List.mem_append] at hw
  obtain ⟨f, hN⟩ := nums_of_trod (by simpa [Value.cells] using h0) (fun n hn => hw n (.inl hn))
  obtain ⟨c, hI⟩ := intsZ_of_trod (by simpa [Value.cells] using h1) (fun n hn => hw n (.inr (.inl hn)))
  exact ⟨_, _, f, c, a, rfl, hN, hI, ha⟩

theorem open_mover {H : Type} {enc : TypeId × Value → H} {W : World} {base b0 : Nat} {held : Bool} {r : Reach} {v : Value} {d : DataW H} {ps : List MemPlace}
    (hv : Value.okWide Try.prog W r b0 75 v) (h : DataW.Trod enc Try.prog W base (fun _ => true) held 75 v d ps)
    (hw : ∀ n ∈ d.weights Try.prog 75, n ≤ reachBytes) :
    ∃ (vf vc : Value) (f : List Nat) (c : List Int) (a : Nat), v = .agg #[vf, vc, .int .u64 a] ∧ Nums W vf f ∧ IntsZ W vc c ∧ a < 18446744073709551616 := by
  obtain ⟨l, rfl⟩ := agg_of Try.underlying75 hv
  obtain ⟨fuel, hf⟩ := h
  obtain ⟨vf, vc, f, c, a, e, hN, hI, ha⟩ := mover_of_cells hf hw
  have e' : l = [vf, vc, .int .u64 a] := by simpa [Value.cells] using e
  exact ⟨vf, vc, f, c, a, by rw [e'], hN, hI, ha⟩

theorem few_of_cells {H : Type} {enc : TypeId × Value → H} {W : World} {base : Nat} {held : Bool} {fuel : Nat} {cs : List Value} {y : DataW H × List MemPlace}
    (h : DataW.trod enc Try.prog W base (fun _ => true) held fuel 82 cs = some y) (hw : ∀ n ∈ y.1.weights Try.prog 82, n ≤ reachBytes) :
    ∃ (vc vs : Value) (c : List Int) (s : List Nat), cs = [vc, vs] ∧ IntsZ W vc c ∧ Nums W vs s := by
  obtain ⟨y0, y1, m, rfl, hl, h0, h1⟩ := trod_struct2 Try.underlying82 h
  rw [show Try.prog.cellsOf 82 = 2 by kernel_rfl] at hl
  obtain ⟨c0, c1, rfl⟩ := cells2 hl
  rw [show Try.prog.cellsOf 33 = 1 by kernel_rfl] at h0
  rw [show Try.prog.cellsOf 24 = 1 by kernel_rfl] at h1
  simp only [DataW.weights, Try.underlying82, List.map_cons, List.map_nil, DataW.weightsEach, List.append_nil, List.mem_append] at hw
  obtain ⟨c, hI⟩ := intsZ_of_trod (by simpa [Value.cells] using h0) (fun n hn => hw n (.inl hn))
  obtain ⟨s, hN⟩ := nums_of_trod (by simpa [Value.cells] using h1) (fun n hn => hw n (.inr hn))
  exact ⟨_, _, c, s, rfl, hI, hN⟩

theorem open_few {H : Type} {enc : TypeId × Value → H} {W : World} {base b0 : Nat} {held : Bool} {r : Reach} {v : Value} {d : DataW H} {ps : List MemPlace}
    (hv : Value.okWide Try.prog W r b0 82 v) (h : DataW.Trod enc Try.prog W base (fun _ => true) held 82 v d ps)
    (hw : ∀ n ∈ d.weights Try.prog 82, n ≤ reachBytes) :
    ∃ (vc vs : Value) (c : List Int) (s : List Nat), v = .agg #[vc, vs] ∧ IntsZ W vc c ∧ Nums W vs s := by
  obtain ⟨l, rfl⟩ := agg_of Try.underlying82 hv
  obtain ⟨fuel, hf⟩ := h
  obtain ⟨vc, vs, c, s, e, hI, hN⟩ := few_of_cells hf hw
  have e' : l = [vc, vs] := by simpa [Value.cells] using e
  exact ⟨vc, vs, c, s, by rw [e'], hI, hN⟩

theorem open_secrets2 {H : Type} {enc : TypeId × Value → H} {W : World} {base b0 : Nat} {held : Bool} {r : Reach} {v : Value} {d : DataW H} {ps : List MemPlace}
    (hv : Value.okWide Try.prog W r b0 79 v) (h : DataW.Trod enc Try.prog W base (fun _ => true) held 79 v d ps)
    (hw : ∀ n ∈ d.weights Try.prog 79, n ≤ reachBytes) :
    ∃ (a a2 : Nat) (d d2 : Int) (vt vt2 : Value) (zs zs2 : List Nat), v = .agg #[.int .u64 a, .int .i64 d, vt, .int .u64 a2, .int .i64 d2, vt2] ∧ a < 18446744073709551616 ∧ a2 < 18446744073709551616 ∧
      (-9223372036854775808 ≤ d ∧ d ≤ 9223372036854775807) ∧ (-9223372036854775808 ≤ d2 ∧ d2 ≤ 9223372036854775807) ∧ Nums W vt zs ∧ Nums W vt2 zs2 := by
  obtain ⟨l, rfl⟩ := agg_of_array Try.underlying79 hv
  obtain ⟨fuel, hf⟩ := h
  obtain ⟨xs, m, _, hd, hlc, hlen, hx⟩ := DataW.trod_array Try.underlying79 hf
  obtain ⟨y0, y1, rfl⟩ := len2 hlen
  have h0 := hx 0 (by omega)
  have h1 := hx 1 (by omega)
  rw [show Try.prog.cellsOf 45 = 3 by kernel_rfl] at h0 h1
  rw [show Try.prog.cellsOf 79 = 6 by kernel_rfl] at hlc
  simp only [Prod.mk.injEq] at hd
  rw [hd.1] at hw
  simp only [List.map_cons, List.map_nil, DataW.weights, Try.underlying79, DataW.weightsAll, List.append_nil, List.mem_append] at hw
  obtain ⟨a, d, vt, zs, e, ha, hd, hN⟩ := secret_of_cells (by simpa [Value.cells] using h0) (fun n hn => hw n (.inl hn))
  obtain ⟨a2, d2, vt2, zs2, e2, ha2, hd2, hN2⟩ := secret_of_cells (by simpa [Value.cells] using h1) (fun n hn => hw n (.inr hn))
  refine ⟨a, a2, d, d2, vt, vt2, zs, zs2, ?_, ha, ha2, hd, hd2, hN, hN2⟩
  have hl6 : l.length = 6 := by simpa [Value.cells] using hlc
  have : l = l.take 3 ++ (l.drop 3).take 3 := by
    rw [List.take_of_length_le (l := l.drop 3) (by simp; omega), List.take_append_drop]
  rw [this, e, e2]
  rfl
end Go.Proofs.Ytgoognipljknjaa
