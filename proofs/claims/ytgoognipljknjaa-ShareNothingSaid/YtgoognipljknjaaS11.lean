/-
  Package share: Secret; the reference's Line.
-/
import Derived.Test.YtgoognipljknjaaLaw4a
import Derived.Test.YtgoognipljknjaaRef2f
namespace Go.Proofs.Ytgoognipljknjaa
open Go.RowKit
set_option linter.unusedVariables false
set_option maxRecDepth 100000

theorem pts_slice {w : World} {v : Value} {xs ys : List Nat} (h : Pts w v xs ys) : ∃ A cap, v = .slice A xs.length cap := by
  obtain ⟨_, _, _, _, A, cap, e, _⟩ := h
  exact ⟨A, cap, e⟩

set_option maxHeartbeats 1000000 in
theorem secret_arg (p : Nat) (d : Int) (v : Value) (w : World) (hd1 : -9223372036854775808 ≤ d) (hd2 : d ≤ 9223372036854775807) (h : d < 0 ∨ 200 < d) (A : Option Addr) (len cap : Nat) (hv : v = .slice A len cap) :
    Calls Try.prog 37 #[.int .u64 p, .int .i64 d, v] w fun e w' => e = .returned (.tuple #[.int .u64 (0 : Nat), .int .i64 2]) ∧ Below w.heap.size w w' := by
  subst hv
  have hud : ∀ b : Bool, undef ≠ Value.bool b := fun b h => by cases h
  rcases h with h | h
  · go_enter Try.func37, Try.ntmps37
    go_wp2_with fail
    go_ret2
    exact ⟨rfl, Below.refl _ _⟩
  · have h' : ¬ d < 0 := by omega
    go_enter Try.func37, Try.ntmps37
    go_wp2_with fail
    go_ret2
    exact ⟨rfl, Below.refl _ _⟩

set_option maxHeartbeats 1000000 in
theorem secret_bad (p d : Nat) (v : Value) (xs ys : List Nat) (w : World) (hp : p < 18446744073709551616) (hd : d ≤ 200) (hv : Pts w v xs ys) (h : M.chkP p xs ys ≠ 0) :
    Calls Try.prog 37 #[.int .u64 p, .int .i64 d, v] w fun e w' => e = .returned (.tuple #[.int .u64 (0 : Nat), .int .i64 (M.chkP p xs ys)]) ∧ Below w.heap.size w w' := by
  have H := Lib.hid (through_bad p v xs ys w hp hv h)
  obtain ⟨A, cap, rfl⟩ := pts_slice hv
  obtain ⟨c, ec⟩ : ∃ c, M.chkP p xs ys = c := ⟨_, rfl⟩
  rw [ec] at H h ⊢
  have hb : (c != 0) = true := by rw [bne_iff_ne]; exact h
  have hud : ∀ b : Bool, undef ≠ Value.bool b := fun b h => by cases h
  have h1 : ¬ (d : Int) < 0 := by omega
  have h2 : ¬ (200 : Int) < d := by omega
  clear hv ec
  go_enter Try.func37, Try.ntmps37
  go_wp2_with fail
  refine H.out.mono ?_
  rintro e w1 ⟨rfl, hb1⟩
  have B1 := Lib.hid hb1
  clear hb1
  go_wp2_with fail
  go_ret2
  exact ⟨rfl, B1.out⟩

/-- what Secret answers where its points are in order -/
def SecEnd (w : World) (p d : Nat) (xs ys : List Nat) (e : Ending) (w' : World) : Prop :=
  Below w.heap.size w w' ∧ ((¬ xs.Nodup ∧ e = .returned (.tuple #[.int .u64 (0 : Nat), .int .i64 6])) ∨
    (xs.Nodup ∧ ∃ f, M.Thru p xs ys f ∧ ((xs.length ≤ d ∧ e = .returned (.tuple #[.int .u64 (0 : Nat), .int .i64 11])) ∨
      (d < xs.length ∧ d + 1 < f.length ∧ e = .returned (.tuple #[.int .u64 (0 : Nat), .int .i64 12])) ∨
      (d < xs.length ∧ f.length ≤ d + 1 ∧ e = .returned (.tuple #[.int .u64 (M.pev p f 0 : Nat), .int .i64 0])))))

set_option maxHeartbeats 1000000 in
theorem secret_any (p d : Nat) (v : Value) (xs ys : List Nat) (w : World) (hd : d ≤ 200) (hv : Pts w v xs ys) (h : M.chkP p xs ys = 0) :
    Calls Try.prog 37 #[.int .u64 p, .int .i64 d, v] w (SecEnd w p d xs ys) := by
  obtain ⟨hi, hl, hwx, hwy⟩ := M.chkP_ok h
  obtain ⟨h3, hp⟩ := M.pos_of hi
  have H := Lib.hid (through_any p v xs ys w hv h)
  have HE := Lib.hid fun W u f (hT : M.Thru p xs ys f) (hN : Nums W u f) => eval_ok p 0 u f W (by omega) hN (M.chk_of hi (by have := hT.2.2.1; omega) hT.1)
  have HEV := Lib.hid fun f => M.pev_lt (p := p) f 0 (by omega)
  obtain ⟨A, cap, rfl⟩ := pts_slice hv
  have hud : ∀ b : Bool, undef ≠ Value.bool b := fun b h => by cases h
  have h1 : ¬ (d : Int) < 0 := by omega
  have h2 : ¬ (200 : Int) < d := by omega
  clear hv h hi
  go_enter Try.func37, Try.ntmps37
  go_wp2_with fail
  refine H.out.mono ?_
  rintro e w1 ⟨hb1, ⟨hnd, u, f, rfl, hN, hT⟩ | ⟨hnd, rfl⟩⟩
  · have B1 := Lib.hid hb1
    have HN := Lib.hid hN
    have HT := Lib.hid hT
    have ND := Lib.hid hnd
    have hfl := hT.2.2.1
    obtain ⟨Af, capf, rfl⟩ := nums_slice' hN
    clear hb1 hN hT hnd
    by_cases g1 : xs.length ≤ d
    · have g1' : (xs.length : Int) ≤ (d : Nat) := by omega
      go_wp2_with fail
      go_ret2
      exact ⟨B1.out, .inr ⟨ND.out, f, HT.out, .inl ⟨g1, rfl⟩⟩⟩
    · have g1' : ¬ (xs.length : Int) ≤ (d : Nat) := by omega
      by_cases g2 : d + 1 < f.length
      · have g2' : (d : Int) < (f.length : Int) - 1 := by omega
        go_wp2_with fail
        go_ret2
        exact ⟨B1.out, .inr ⟨ND.out, f, HT.out, .inr (.inl ⟨by omega, g2, rfl⟩)⟩⟩
      · have g2' : ¬ (d : Int) < (f.length : Int) - 1 := by omega
        have HEW := Lib.hid (HE.out w1 _ f HT.out HN.out)
        have hy := HEV.out f
        obtain ⟨y, ey⟩ : ∃ y, y = M.pev p f 0 := ⟨_, rfl⟩
        rw [← ey] at HEW hy
        have EY := Lib.hid ey
        clear ey
        go_wp2_with fail
        refine HEW.out.mono ?_
        rintro e w2 ⟨rfl, hb2⟩
        have B2 := Lib.hid (bnext B1.out hb2)
        clear hb2
        go_wp2_with fail
        go_ret2
        exact ⟨B2.out, .inr ⟨ND.out, f, HT.out, .inr (.inr ⟨by omega, by omega, by rw [← EY.out]; rfl⟩)⟩⟩
  · have B1 := Lib.hid hb1
    have ND := Lib.hid hnd
    clear hb1 hnd
    go_wp2_with fail
    go_ret2
    exact ⟨B1.out, .inl ⟨ND.out, rfl⟩⟩

set_option maxHeartbeats 1000000 in
theorem rline_any (p : Nat) (d : Int) (v : Value) (xs ys : List Nat) (w : World) (hd1 : -1000 ≤ d) (hd2 : d ≤ 1000) (hv : Pts w v xs ys) (hi : M.isP p = true) (hxl : xs.length ≤ 201) (hwx : M.within p xs = true) (hwy : M.within p ys = true) (hn : xs.Nodup) :
    Calls Try.prog 40 #[.int .u64 p, .int .i64 d, v] w fun e w' => ∃ u f, e = .returned (.tuple #[u, .bool (decide ((f.length : Int) ≤ d + 1))]) ∧ Nums w' u f ∧ M.Thru p xs ys f ∧ Below w.heap.size w w' := by
  have H := Lib.hid (rthrough_any p v xs ys w hi hxl hwx hwy hn hv)
  obtain ⟨A, cap, rfl⟩ := pts_slice hv
  clear hv hi
  go_enter Try.func40, Try.ntmps40
  go_wp2_with fail
  refine H.out.mono ?_
  rintro e w1 ⟨u, f, rfl, hN, hT, hb1⟩
  have B1 := Lib.hid hb1
  have HN := Lib.hid hN
  have HT := Lib.hid hT
  have hfl := hT.2.2.1
  obtain ⟨Af, capf, rfl⟩ := nums_slice' hN
  clear hb1 hN hT
  go_wp2_with fail
  go_ret2
  exact ⟨_, f, rfl, HN.out, HT.out, B1.out⟩
end Go.Proofs.Ytgoognipljknjaa
