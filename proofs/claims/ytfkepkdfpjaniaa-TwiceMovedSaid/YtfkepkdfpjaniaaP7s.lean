/-
  Setups and corrupted parties.
-/
import Derived.Test.YtfkepkdfpjaniaaF6
import Derived.SizedLaws
import Derived.Deep.Slices
import Derived.Deep.Fields
import Derived.Deep.Strs
import Derived.ChangeSame
import Derived.WalkKit
import Derived.ProofKit
import Derived.OpenShut
namespace Go.Proofs.Ytfkepkdfpjaniaa
open Go.ChangeShapes Go.WideShapes Go.ChangeAt Go.RowKit Go.Deep
set_option linter.unusedVariables false
set_option maxRecDepth 100000

/-- the slice value v reads as the signed integers zs -/
def IntsZ (w : World) (v : Value) (zs : List Int) : Prop :=
  (∀ n ∈ zs, -9223372036854775808 ≤ n ∧ n ≤ 9223372036854775807) ∧ zs.length ≤ 17592186043904 ∧ ∃ A cap, v = .slice A zs.length cap ∧ zs.length ≤ cap ∧
    (0 < zs.length → ∃ b off, A = some ⟨b, off, none⟩ ∧ b < w.heap.size ∧ ∀ i, i < zs.length → w.cell? ⟨b, off + i, none⟩ = some (.int .i64 (zs.getD i 0)))

theorem IntsZ.below {w w' : World} {v : Value} {zs : List Int} (h : IntsZ w v zs) (hb : Below w.heap.size w w') : IntsZ w' v zs := by
  obtain ⟨h1, h2, A, cap, e, hc, h3⟩ := h
  refine ⟨h1, h2, A, cap, e, hc, fun h0 => ?_⟩
  obtain ⟨b, off, eA, hl, hcell⟩ := h3 h0
  exact ⟨b, off, eA, Nat.lt_of_lt_of_le hl hb.size, fun i hi => (hb.cell (p := ⟨b, off + i, none⟩) hl).trans (hcell i hi)⟩

theorem intsZ_nil (W : World) : IntsZ W (.slice none 0 0) [] := ⟨by simp, by simp, none, 0, rfl, by simp, fun h => absurd h (by simp)⟩

theorem intsZ_row (W : World) (x : Addr) (len cap : Nat) (zs : List Int) (hl : len ≤ cap) (hz : zs.length = cap) (hcell : ∀ i, i < zs.length → W.cell? (x.add i) = some (.int .i64 (zs.getD i 0)))
    (hwz : ∀ n ∈ zs, (Lit.int .i64 n).wf = true) (hs : len * 8 ≤ 140737488351232) : ∃ ns, IntsZ W (.slice (some x) len cap) ns := by
  have hln : (zs.take len).length = len := by simp; omega
  refine ⟨zs.take len, fun n hn => ?_, by omega, some x, cap, by rw [hln], by omega, fun h0 => ?_⟩
  · exact bounds_i64 (hwz n (List.mem_of_mem_take hn))
  · obtain ⟨b, off, spot⟩ := x
    have hc := hcell 0 (by omega)
    have hspot : spot = none := by simpa [Addr.add] using World.cell?_spot hc
    subst hspot
    refine ⟨b, off, rfl, ?_, fun i hi => ?_⟩
    · have := World.block_lt_of_cell? W _ hc
      simpa [Addr.add] using this
    · rw [hln] at hi
      have h := hcell i (by omega)
      rw [Addr.add_lit] at h
      rw [h]
      simp [List.getD_eq_getElem?_getD, hi]

/-! ### What came in, cell by cell -/
theorem intsZ_of_trod {H : Type} {enc : TypeId × Value → H} {W : World} {base : Nat} {held : Bool} {fuel : Nat} {c : Value} {y : DataW H × List MemPlace}
    (h : DataW.trod enc Try.prog W base (fun _ => true) held fuel 59 [c] = some y) (hw : ∀ n ∈ y.1.weights Try.prog 59, n ≤ reachBytes) : ∃ zs, IntsZ W c zs := by
  rcases open_ints Try.underlying59 Try.underlying3 (by kernel_rfl) h with ⟨hcs, _⟩ | ⟨x, l, cp, zs, hcs, _, hl, hm, hz, hx, hcell, hwz⟩
  · simp at hcs
    subst hcs
    exact ⟨[], intsZ_nil W⟩
  · simp at hcs
    subst hcs
    have hs : l * 8 ≤ 140737488351232 := by
      rw [hx] at hw
      have h8 : Try.prog.bytesOf 3 = 8 := by kernel_rfl
      simp only [DataW.weights, Try.underlying59] at hw
      have := hw _ (List.mem_cons_self ..)
      rw [h8] at this
      simp only [lits, List.length_map, List.length_take, List.length_drop, reachBytes] at this
      simp at hz
      omega
    exact intsZ_row W x _ _ zs hl (by simpa using hz) hcell hwz hs

/-- a setup's value -/
def suV (P : Nat) (n t : Int) : Value := .agg #[.int .u64 P, .int .i64 n, .int .i64 t]

theorem cells3 {l : List Value} (h : l.length = 3) : ∃ a b c, l = [a, b, c] := by
  match l, h with
  | [a, b, c], _ => exact ⟨a, b, c, rfl⟩
theorem cells2 {l : List Value} (h : l.length = 2) : ∃ a b, l = [a, b] := by
  match l, h with
  | [a, b], _ => exact ⟨a, b, rfl⟩

theorem open_setup {H : Type} {enc : TypeId × Value → H} {W : World} {base b0 : Nat} {sp : Nat → Bool} {held : Bool} {r : Reach} {v : Value} {d : DataW H} {ps : List MemPlace}
    (hv : Value.okWide Try.prog W r b0 24 v) (h : DataW.Trod enc Try.prog W base sp held 24 v d ps) :
    ∃ (P : Nat) (n t : Int), v = suV P n t ∧ P < 18446744073709551616 ∧ (-9223372036854775808 ≤ n ∧ n ≤ 9223372036854775807) ∧ -9223372036854775808 ≤ t ∧ t ≤ 9223372036854775807 := by
  obtain ⟨cs, rfl, hsz, _⟩ : ∃ cs, v = .agg cs ∧ cs.size = Try.prog.cellsOf 24 ∧ Row.okWide Try.prog W r b0 24 cs := by simpa [Value.okWide, Try.underlying24] using hv
  obtain ⟨l⟩ := cs
  obtain ⟨fuel, hf⟩ := h
  obtain ⟨y0, y1, y2, m, _, hl, h0, h1, h2⟩ := trod_struct3 Try.underlying24 hf
  rw [show Try.prog.cellsOf 24 = 3 by kernel_rfl] at hsz
  obtain ⟨c0, c1, c2, rfl⟩ := cells3 (l := l) (by simpa using hsz)
  rw [show Try.prog.cellsOf 22 = 1 by kernel_rfl] at h0
  rw [show Try.prog.cellsOf 3 = 1 by kernel_rfl] at h1 h2
  obtain ⟨P, rfl, hP⟩ := u64_of_trod (by simpa [Value.cells] using h0)
  obtain ⟨n, rfl, hn⟩ := int_of_trod (by simpa [Value.cells] using h1)
  obtain ⟨t, rfl, ht⟩ := int_of_trod (by simpa [Value.cells] using h2)
  exact ⟨P, n, t, rfl, hP, hn, ht⟩
end Go.Proofs.Ytfkepkdfpjaniaa
namespace Go.Proofs.Ytfkepkdfpjaniaa
open Go.RowKit
set_option linter.unusedVariables false
set_option maxRecDepth 100000

namespace M
/-- a valid setup -/
def okS (p : Nat) (n t : Int) : Bool := isP p && decide (1 ≤ n) && decide (n ≤ 13) && decide (0 ≤ t) && decide (4 * t + 1 ≤ n) && decide (n < (p : Int))
def errS (p : Nat) (n t : Int) : Int := if okS p n t = true then 0 else 2
theorem okS_iff {p : Nat} {n t : Int} : okS p n t = true ↔ isP p = true ∧ 1 ≤ n ∧ n ≤ 13 ∧ 0 ≤ t ∧ 4 * t + 1 ≤ n ∧ n < (p : Int) := by
  simp only [okS, Bool.and_eq_true, decide_eq_true_eq]
  constructor
  · rintro ⟨⟨⟨⟨⟨h1, h2⟩, h3⟩, h4⟩, h5⟩, h6⟩; exact ⟨h1, h2, h3, h4, h5, h6⟩
  · rintro ⟨h1, h2, h3, h4, h5, h6⟩; exact ⟨⟨⟨⟨⟨h1, h2⟩, h3⟩, h4⟩, h5⟩, h6⟩
theorem errS_ok {p : Nat} {n t : Int} (h : okS p n t = true) : 0 = errS p n t := by simp [errS, h]
theorem errS_of {p : Nat} {n t : Int} (h1 : isP p = true) (h2 : 1 ≤ n) (h3 : n ≤ 13) (h4 : 0 ≤ t) (h5 : 4 * t + 1 ≤ n) (h6 : n < (p : Int)) : 0 = errS p n t := errS_ok (okS_iff.2 ⟨h1, h2, h3, h4, h5, h6⟩)
theorem errS_no {p : Nat} {n t : Int} (h : ¬ (isP p = true ∧ 1 ≤ n ∧ n ≤ 13 ∧ 0 ≤ t ∧ 4 * t + 1 ≤ n ∧ n < (p : Int))) : 2 = errS p n t := by
  unfold errS; rw [if_neg (fun h2 => h (okS_iff.1 h2))]
theorem okS_nat {p : Nat} {n t : Int} (h : okS p n t = true) : ∃ N T : Nat, n = (N : Int) ∧ t = (T : Int) ∧ isP p = true ∧ 1 ≤ N ∧ N ≤ 13 ∧ 4 * T + 1 ≤ N ∧ N < p := by
  obtain ⟨h1, h2, h3, h4, h5, h6⟩ := okS_iff.1 h
  exact ⟨n.toNat, t.toNat, by omega, by omega, h1, by omega, by omega, by omega, by omega⟩
end M

set_option maxHeartbeats 1000000 in
theorem setup_any (p : Nat) (n t : Int) (w : World) (hp : p < 18446744073709551616) (hn1 : -9223372036854775808 ≤ n) (hn2 : n ≤ 9223372036854775807) (ht1 : -9223372036854775808 ≤ t) (ht2 : t ≤ 9223372036854775807) :
    Calls Try.prog 47 #[suV p n t] w fun e w' => e = .returned (.int .i64 (M.errS p n t)) ∧ Below w.heap.size w w' := by
  have HC := Lib.hid fun W => is_any p W hp
  have HB := Lib.hid (balloc w (Obj.cells #[Value.int IntKind.u64 p, Value.int IntKind.i64 n, Value.int IntKind.i64 t] 24))
  have hud : ∀ b : Bool, undef ≠ Value.bool b := fun b h => by cases h
  unfold suV
  by_cases h1 : n < 1
  · go_enter Try.func47, Try.ntmps47
    go_wp2_with fail
    go_ret
    exact ⟨ret1 (M.errS_no (by omega)), HB.out⟩
  by_cases h2 : n > 13
  · go_enter Try.func47, Try.ntmps47
    go_wp2_with fail
    go_ret
    exact ⟨ret1 (M.errS_no (by omega)), HB.out⟩
  obtain ⟨N, rfl⟩ := Int.eq_ofNat_of_zero_le (show 0 ≤ n by omega)
  cases hi : M.isP p with
  | false =>
    rw [hi] at HC
    go_enter Try.func47, Try.ntmps47
    go_wp2_with (go_at_call 75; refine (HC.out _).mono ?_; rintro e w' ⟨rfl, rfl⟩)
    go_ret
    exact ⟨ret1 (M.errS_no (by simp [hi])), HB.out⟩
  | true =>
    rw [hi] at HC
    by_cases h3 : p ≤ N
    · go_enter Try.func47, Try.ntmps47
      go_wp2_with (go_at_call 75; refine (HC.out _).mono ?_; rintro e w' ⟨rfl, rfl⟩)
      go_ret
      exact ⟨ret1 (M.errS_no (by omega)), HB.out⟩
    · by_cases h4 : t < 0
      · go_enter Try.func47, Try.ntmps47
        go_wp2_with (go_at_call 75; refine (HC.out _).mono ?_; rintro e w' ⟨rfl, rfl⟩)
        go_ret
        exact ⟨ret1 (M.errS_no (by omega)), HB.out⟩
      · by_cases h5 : t > ((N : Int) - 1) / 4
        · go_enter Try.func47, Try.ntmps47
          go_wp2_with (go_at_call 75; refine (HC.out _).mono ?_; rintro e w' ⟨rfl, rfl⟩)
          go_ret
          exact ⟨ret1 (M.errS_no (by omega)), HB.out⟩
        · go_enter Try.func47, Try.ntmps47
          go_wp2_with (go_at_call 75; refine (HC.out _).mono ?_; rintro e w' ⟨rfl, rfl⟩)
          go_ret
          exact ⟨ret1 (M.errS_of hi (by omega) (by omega) (by omega) (by omega) (by omega)), HB.out⟩

set_option maxHeartbeats 1000000 in
theorem rsetup_any (p : Nat) (n t : Int) (w : World) (hp : p < 18446744073709551616) (hn1 : -9223372036854775808 ≤ n) (hn2 : n ≤ 9223372036854775807) (ht1 : -9223372036854775808 ≤ t) (ht2 : t ≤ 9223372036854775807) :
    Calls Try.prog 18 #[suV p n t] w fun e w' => e = .returned (.int .i64 (M.errS p n t)) ∧ Below w.heap.size w w' := by
  have HC := Lib.hid fun W => refIs_any p W hp
  have HB := Lib.hid (balloc w (Obj.cells #[Value.int IntKind.u64 p, Value.int IntKind.i64 n, Value.int IntKind.i64 t] 24))
  have hud : ∀ b : Bool, undef ≠ Value.bool b := fun b h => by cases h
  unfold suV
  cases hi : M.isP p with
  | false =>
    rw [hi] at HC
    go_enter Try.func18, Try.ntmps18
    go_wp2_with (go_at_call 55; refine (HC.out _).mono ?_; rintro e w' ⟨rfl, rfl⟩)
    go_ret
    exact ⟨ret1 (M.errS_no (by simp [hi])), HB.out⟩
  | true =>
    rw [hi] at HC
    by_cases h1 : n < 1
    · go_enter Try.func18, Try.ntmps18
      go_wp2_with (go_at_call 55; refine (HC.out _).mono ?_; rintro e w' ⟨rfl, rfl⟩)
      go_ret
      exact ⟨ret1 (M.errS_no (by omega)), HB.out⟩
    by_cases h2 : n > 13
    · go_enter Try.func18, Try.ntmps18
      go_wp2_with (go_at_call 55; refine (HC.out _).mono ?_; rintro e w' ⟨rfl, rfl⟩)
      go_ret
      exact ⟨ret1 (M.errS_no (by omega)), HB.out⟩
    obtain ⟨N, rfl⟩ := Int.eq_ofNat_of_zero_le (show 0 ≤ n by omega)
    by_cases h4 : t < 0
    · go_enter Try.func18, Try.ntmps18
      go_wp2_with (go_at_call 55; refine (HC.out _).mono ?_; rintro e w' ⟨rfl, rfl⟩)
      go_ret
      exact ⟨ret1 (M.errS_no (by omega)), HB.out⟩
    by_cases h5 : t > 13
    · go_enter Try.func18, Try.ntmps18
      go_wp2_with (go_at_call 55; refine (HC.out _).mono ?_; rintro e w' ⟨rfl, rfl⟩)
      go_ret
      exact ⟨ret1 (M.errS_no (by omega)), HB.out⟩
    by_cases h6 : (N : Int) < 4 * t + 1
    · go_enter Try.func18, Try.ntmps18
      go_wp2_with (go_at_call 55; refine (HC.out _).mono ?_; rintro e w' ⟨rfl, rfl⟩)
      go_ret
      exact ⟨ret1 (M.errS_no (by omega)), HB.out⟩
    by_cases h3 : p ≤ N
    · go_enter Try.func18, Try.ntmps18
      go_wp2_with (go_at_call 55; refine (HC.out _).mono ?_; rintro e w' ⟨rfl, rfl⟩)
      go_ret
      exact ⟨ret1 (M.errS_no (by omega)), HB.out⟩
    · go_enter Try.func18, Try.ntmps18
      go_wp2_with (go_at_call 55; refine (HC.out _).mono ?_; rintro e w' ⟨rfl, rfl⟩)
      go_ret
      exact ⟨ret1 (M.errS_of hi (by omega) (by omega) (by omega) (by omega) (by omega)), HB.out⟩
end Go.Proofs.Ytfkepkdfpjaniaa
namespace Go.Proofs.Ytfkepkdfpjaniaa
open Go.RowKit
set_option linter.unusedVariables false
set_option maxRecDepth 100000

namespace M
def prev (l : List Int) (i : Nat) : Int := if i = 0 then 0 else l.getD (i - 1) 0
/-- the first k of l rise from 1 to n -/
def RisesTo (n : Int) (l : List Int) (k : Nat) : Prop := ∀ i, i < k → prev l i < l.getD i 0 ∧ l.getD i 0 ≤ n
def rising (n : Int) (l : List Int) : Bool := (List.range l.length).all fun i => decide (prev l i < l.getD i 0) && decide (l.getD i 0 ≤ n)
theorem rising_iff {n : Int} {l : List Int} : rising n l = true ↔ RisesTo n l l.length := by
  simp only [rising, List.all_eq_true, List.mem_range, Bool.and_eq_true, decide_eq_true_eq, RisesTo]
theorem rises_zero (n : Int) (l : List Int) : RisesTo n l 0 := fun i hi => absurd hi (by omega)
theorem rises_succ {n : Int} {l : List Int} {k : Nat} (h : RisesTo n l k) (h1 : prev l k < l.getD k 0) (h2 : l.getD k 0 ≤ n) : RisesTo n l (k + 1) := by
  intro i hi
  by_cases hk : i = k
  · subst hk; exact ⟨h1, h2⟩
  · exact h i (by omega)
theorem rising_not {n : Int} {l : List Int} {k : Nat} (hk : k < l.length) (h : l.getD k 0 ≤ prev l k ∨ n < l.getD k 0) : false = rising n l := by
  cases hr : rising n l with
  | false => rfl
  | true =>
    have := rising_iff.1 hr k hk
    omega
theorem rises_pos {n : Int} {l : List Int} {k : Nat} (h : RisesTo n l k) : ∀ i, i < k → 1 ≤ l.getD i 0
  | 0, hi => by have := (h 0 hi).1; simp only [prev, if_true] at this; omega
  | i + 1, hi => by
    have h1 := (h (i + 1) hi).1
    have h2 := rises_pos h i (by omega)
    simp only [prev, Nat.add_sub_cancel] at h1
    rw [if_neg (by omega)] at h1
    omega
theorem prev_nonneg {n : Int} {l : List Int} {k : Nat} (h : RisesTo n l k) : 0 ≤ prev l k := by
  unfold prev; split
  · omega
  · have := rises_pos h (k - 1) (by omega); omega
theorem prev_succ (l : List Int) (k : Nat) : prev l (k + 1) = l.getD k 0 := by simp [prev]
def errC (p : Nat) (n t : Int) (l : List Int) : Int := if okS p n t = true ∧ (l.length : Int) ≤ t ∧ rising n l = true then 0 else 2
theorem errC_no {p : Nat} {n t : Int} {l : List Int} (h : okS p n t = false) : 2 = errC p n t l := by simp [errC, h]
theorem errC_long {p : Nat} {n t : Int} {l : List Int} (h : ¬ (l.length : Int) ≤ t) : 2 = errC p n t l := by simp [errC, h]
theorem errC_fall {p : Nat} {n t : Int} {l : List Int} (h : false = rising n l) : 2 = errC p n t l := by simp [errC, ← h]
theorem errC_ok {p : Nat} {n t : Int} {l : List Int} (h : okS p n t = true) (h1 : (l.length : Int) ≤ t) (h2 : RisesTo n l l.length) : 0 = errC p n t l := by
  unfold errC; rw [if_pos ⟨h, h1, rising_iff.2 h2⟩]
theorem errC_zero {p : Nat} {n t : Int} {l : List Int} (h : errC p n t l = 0) : okS p n t = true ∧ (l.length : Int) ≤ t ∧ RisesTo n l l.length := by
  unfold errC at h
  split at h
  · rename_i hh; exact ⟨hh.1, hh.2.1, rising_iff.1 hh.2.2⟩
  · cases h
end M

set_option maxHeartbeats 1000000 in
theorem corrupted_any (p : Nat) (n t : Int) (v : Value) (l : List Int) (w : World) (hp : p < 18446744073709551616) (hn1 : -9223372036854775808 ≤ n) (hn2 : n ≤ 9223372036854775807) (ht1 : -9223372036854775808 ≤ t) (ht2 : t ≤ 9223372036854775807) (hv : IntsZ w v l) :
    Calls Try.prog 66 #[suV p n t, v] w fun e w' => e = .returned (.int .i64 (M.errC p n t l)) ∧ Below w.heap.size w w' := by
  have HC := Lib.hid fun W => setup_any p n t W hp hn1 hn2 ht1 ht2
  have HB := Lib.hid (balloc w (Obj.cells #[Value.int IntKind.u64 p, Value.int IntKind.i64 n, Value.int IntKind.i64 t] 24))
  have hud : ∀ b : Bool, undef ≠ Value.bool b := fun b h => by cases h
  obtain ⟨hz, hl, A, cap, rfl, hcap, hcell⟩ := hv
  have HV := Lib.hid hcell
  have HZ := Lib.hid hz
  unfold suV at HC ⊢
  clear hcell hz
  cases hs : M.okS p n t with
  | false =>
    have e2 : M.errS p n t = 2 := by simp [M.errS, hs]
    rw [e2] at HC
    go_enter Try.func66, Try.ntmps66
    go_wp2_with fail
    refine (HC.out _).mono ?_
    rintro e w1 ⟨rfl, hb1⟩
    have B1 := Lib.hid (bnext HB.out hb1)
    clear hb1
    go_wp2_with fail
    go_ret
    exact ⟨ret1 (M.errC_no hs), B1.out⟩
  | true =>
    have e2 : M.errS p n t = 0 := by simp [M.errS, hs]
    rw [e2] at HC
    go_enter Try.func66, Try.ntmps66
    go_wp2_with fail
    refine (HC.out _).mono ?_
    rintro e w1 ⟨rfl, hb1⟩
    have B1 := Lib.hid (bnext HB.out hb1)
    have c1 : w1.cell? ⟨w.heap.size, 1, none⟩ = some (.int .i64 n) := by
      refine (hb1.cell (p := ⟨w.heap.size, 1, none⟩) (by simp)).trans (by simp)
    have c2 : w1.cell? ⟨w.heap.size, 2, none⟩ = some (.int .i64 t) := by
      refine (hb1.cell (p := ⟨w.heap.size, 2, none⟩) (by simp)).trans (by simp)
    clear hb1
    by_cases hL : (l.length : Int) ≤ t
    · have H1 := Lib.hid c1
      go_wp2_with fail
      go_loop [6, 21] (fun tb ti => ∃ k : Nat, k ≤ l.length ∧ ti = .int .i64 k ∧ tb = .int .i64 (M.prev l k) ∧ M.RisesTo n l k) (fun _ ti => l.length - (intOf ti).toNat)
      case atStart => exact ⟨0, by omega, rfl, rfl, M.rises_zero n l⟩
      case round =>
        obtain ⟨k, hk, rfl, rfl, hr⟩ := hrel
        have HR := Lib.hid hr
        clear hr
        by_cases hlt : k < l.length
        · obtain ⟨b, off, rfl, hb, hcell⟩ := HV.out (by omega)
          have hc := (B1.out.cell (p := ⟨b, off + k, none⟩) hb).trans (hcell k hlt)
          have hzk := HZ.out (l.getD k 0) (by rw [List.getD_eq_getElem?_getD, List.getElem?_eq_getElem hlt]; exact List.getElem_mem hlt)
          have hps := M.prev_succ l k
          have hnot := M.rising_not (n := n) hlt
          have hsucc := M.rises_succ HR.out
          obtain ⟨x, ex⟩ : ∃ x, x = l.getD k 0 := ⟨_, rfl⟩
          obtain ⟨y, ey⟩ : ∃ y, y = M.prev l k := ⟨_, rfl⟩
          rw [← ex] at hc hzk hps hnot hsucc
          rw [← ey] at hnot hsucc ⊢
          have HP := Lib.hid hps
          have HN := Lib.hid hnot
          have HS := Lib.hid hsucc
          clear hps hnot hsucc ex ey hcell
          have hkl : (k : Int) < (l.length : Nat) := by omega
          by_cases hx : x ≤ y
          · go_wp2_with fail
            go_ret
            exact ⟨ret1 (M.errC_fall (HN.out (.inl hx))), B1.out⟩
          by_cases hx2 : n < x
          · go_wp2_with fail
            go_ret
            exact ⟨ret1 (M.errC_fall (HN.out (.inr hx2))), B1.out⟩
          go_wp2_with fail
          go_round
          case rel => exact ⟨k + 1, by omega, by go_num, by rw [HP.out], HS.out (by omega) (by omega)⟩
          case measure => simp [intOf]; omega
        · obtain rfl : k = l.length := by omega
          go_wp2_with fail
          go_ret
          exact ⟨ret1 (M.errC_ok hs hL HR.out), B1.out⟩
    · go_wp2_with fail
      go_ret
      exact ⟨ret1 (M.errC_long (by omega)), B1.out⟩

set_option maxHeartbeats 1000000 in
theorem rrising_any (n : Int) (v : Value) (l : List Int) (w : World) (hn1 : -9223372036854775808 ≤ n) (hn2 : n ≤ 9223372036854775807) (hv : IntsZ w v l) :
    Calls Try.prog 70 #[.int .i64 n, v] w fun e w' => e = .returned (.bool (M.rising n l)) ∧ w = w' := by
  have hud : ∀ b : Bool, undef ≠ Value.bool b := fun b h => by cases h
  obtain ⟨hz, hl, A, cap, rfl, hcap, hcell⟩ := hv
  have HV := Lib.hid hcell
  have HZ := Lib.hid hz
  clear hcell hz
  go_enter Try.func70, Try.ntmps70
  go_wp2_with fail
  go_loop [9] (fun ti => ∃ k : Nat, k ≤ l.length ∧ ti = .int .i64 k ∧ M.RisesTo n l k) (fun ti => l.length - (intOf ti).toNat)
  case atStart => exact ⟨0, by omega, rfl, M.rises_zero n l⟩
  case round =>
    obtain ⟨k, hk, rfl, hr⟩ := hrel
    have HR := Lib.hid hr
    clear hr
    by_cases hlt : k < l.length
    · obtain ⟨b, off, rfl, hb, hcell⟩ := HV.out (by omega)
      have hc := hcell k hlt
      have hzk := HZ.out (l.getD k 0) (by rw [List.getD_eq_getElem?_getD, List.getElem?_eq_getElem hlt]; exact List.getElem_mem hlt)
      have hnot := M.rising_not (n := n) hlt
      have hsucc := M.rises_succ HR.out
      obtain ⟨x, ex⟩ : ∃ x, x = l.getD k 0 := ⟨_, rfl⟩
      rw [← ex] at hc hzk hnot hsucc
      have hpn := M.prev_nonneg HR.out
      have hkl : (k : Int) < (l.length : Nat) := by omega
      by_cases hx : x < 1
      · have HN := Lib.hid (hnot (.inl (by omega)))
        clear hnot hsucc ex hcell hpn
        go_wp2_with fail
        go_ret
        exact ⟨ret_bool HN.out, rfl⟩
      by_cases hx2 : n < x
      · have HN := Lib.hid (hnot (.inr hx2))
        clear hnot hsucc ex hcell hpn
        go_wp2_with fail
        go_ret
        exact ⟨ret_bool HN.out, rfl⟩
      by_cases hk0 : k = 0
      · subst hk0
        have HS := Lib.hid (hsucc (by simp only [M.prev, if_true]; omega) (by omega))
        rw [Nat.add_zero] at hc
        clear hnot hsucc ex hcell hpn
        go_wp2_with fail
        go_round
        case rel => exact ⟨1, by omega, rfl, HS.out⟩
        case measure => simp [intOf]; omega
      · have hcp := hcell (k - 1) (by omega)
        have hzp := HZ.out (l.getD (k - 1) 0) (by rw [List.getD_eq_getElem?_getD, List.getElem?_eq_getElem (by omega)]; exact List.getElem_mem (by omega))
        have ep : M.prev l k = l.getD (k - 1) 0 := by unfold M.prev; rw [if_neg hk0]
        rw [ep] at hnot hsucc
        obtain ⟨y, ey⟩ : ∃ y, y = l.getD (k - 1) 0 := ⟨_, rfl⟩
        rw [← ey] at hcp hzp hnot hsucc
        obtain ⟨j, rfl⟩ : ∃ j, k = j + 1 := ⟨k - 1, by omega⟩
        rw [Nat.add_sub_cancel] at hcp
        by_cases hxy : x ≤ y
        · have HN := Lib.hid (hnot (.inl hxy))
          clear hnot hsucc ex ey ep hcell hpn
          go_wp2_with fail
          go_ret
          exact ⟨ret_bool HN.out, rfl⟩
        · have HS := Lib.hid (hsucc (by omega) (by omega))
          clear hnot hsucc ex ey ep hcell hpn
          go_wp2_with fail
          go_round
          case rel => exact ⟨j + 1 + 1, by omega, by go_num, HS.out⟩
          case measure => simp [intOf]; omega
    · obtain rfl : k = l.length := by omega
      go_wp2_with fail
      go_ret
      exact ⟨ret_bool (M.rising_iff.2 HR.out).symm, rfl⟩

set_option maxHeartbeats 1000000 in
theorem rcorrupted_any (p : Nat) (n t : Int) (v : Value) (l : List Int) (w : World) (hp : p < 18446744073709551616) (hn1 : -9223372036854775808 ≤ n) (hn2 : n ≤ 9223372036854775807) (ht1 : -9223372036854775808 ≤ t) (ht2 : t ≤ 9223372036854775807) (hv : IntsZ w v l) :
    Calls Try.prog 36 #[suV p n t, v] w fun e w' => e = .returned (.int .i64 (M.errC p n t l)) ∧ Below w.heap.size w w' := by
  have HC := Lib.hid fun W => rsetup_any p n t W hp hn1 hn2 ht1 ht2
  have HB := Lib.hid (balloc w (Obj.cells #[Value.int IntKind.u64 p, Value.int IntKind.i64 n, Value.int IntKind.i64 t] 24))
  have hud : ∀ b : Bool, undef ≠ Value.bool b := fun b h => by cases h
  have HRI := Lib.hid fun W (hW : IntsZ W v l) => rrising_any n v l W hn1 hn2 hW
  have HV := Lib.hid hv
  obtain ⟨_, hl, A, cap, rfl, hcap, _⟩ := hv
  unfold suV at HC ⊢
  cases hs : M.okS p n t with
  | false =>
    have e2 : M.errS p n t = 2 := by simp [M.errS, hs]
    rw [e2] at HC
    go_enter Try.func36, Try.ntmps36
    go_wp2_with fail
    refine (HC.out _).mono ?_
    rintro e w1 ⟨rfl, hb1⟩
    have B1 := Lib.hid (bnext HB.out hb1)
    clear hb1
    go_wp2_with fail
    go_ret
    exact ⟨ret1 (M.errC_no hs), B1.out⟩
  | true =>
    have e2 : M.errS p n t = 0 := by simp [M.errS, hs]
    rw [e2] at HC
    go_enter Try.func36, Try.ntmps36
    go_wp2_with fail
    refine (HC.out _).mono ?_
    rintro e w1 ⟨rfl, hb1⟩
    have B1 := Lib.hid (bnext HB.out hb1)
    have c1 : w1.cell? ⟨w.heap.size, 1, none⟩ = some (.int .i64 n) := by
      refine (hb1.cell (p := ⟨w.heap.size, 1, none⟩) (by simp)).trans (by simp)
    have c2 : w1.cell? ⟨w.heap.size, 2, none⟩ = some (.int .i64 t) := by
      refine (hb1.cell (p := ⟨w.heap.size, 2, none⟩) (by simp)).trans (by simp)
    clear hb1
    by_cases hL : (l.length : Int) ≤ t
    · cases hr : M.rising n l with
      | false =>
        rw [hr] at HRI
        go_wp2_with (go_at_call 70; refine (HRI.out _ (HV.out.below B1.out)).mono ?_; rintro e w' ⟨rfl, rfl⟩)
        go_ret
        exact ⟨ret1 (M.errC_fall hr.symm), B1.out⟩
      | true =>
        rw [hr] at HRI
        go_wp2_with (go_at_call 70; refine (HRI.out _ (HV.out.below B1.out)).mono ?_; rintro e w' ⟨rfl, rfl⟩)
        go_ret
        exact ⟨ret1 (M.errC_ok hs hL (M.rising_iff.1 hr)), B1.out⟩
    · go_wp2_with fail
      go_ret
      exact ⟨ret1 (M.errC_long (by omega)), B1.out⟩
end Go.Proofs.Ytfkepkdfpjaniaa
