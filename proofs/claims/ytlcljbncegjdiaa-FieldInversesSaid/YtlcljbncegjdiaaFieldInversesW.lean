/-
  The walk of the law FieldInverses.
-/
import Derived.Test.YtlcljbncegjdiaaInvOk
import Derived.Test.YtlcljbncegjdiaaLists
namespace Go.Proofs.Ytlcljbncegjdiaa.fieldInversesW
open Go.RowKit
set_option linter.unusedVariables false

theorem nums_below {w w' : World} {v : Value} {zs : List Nat} (h : Nums w v zs) (hb : Below w.heap.size w w') : Nums w' v zs := by
  obtain ⟨h1, h2, h3⟩ := h
  refine ⟨h1, h2, ?_⟩
  rcases h3 with h3 | ⟨b, off, cap, e, hc, hl, hcell⟩
  · exact .inl h3
  · exact .inr ⟨b, off, cap, e, hc, Nat.lt_of_lt_of_le hl hb.size, fun i hi => (hb.cell (p := ⟨b, off + i, none⟩) hl).trans (hcell i hi)⟩

set_option maxHeartbeats 1000000 in
theorem walk_bad_cells (w : World) (p b off cap : Nat) (zs : List Nat) (hN : Nums w (.slice (some ⟨b, off, none⟩) zs.length cap) zs) (hb : b < w.heap.size) (hcell : ∀ i, i < zs.length → w.cell? ⟨b, off + i, none⟩ = some (.int .u64 (zs.getD i 0))) (hp : p < 18446744073709551616) (hv : M.validB p zs = false) :
    Calls Try.prog 7 #[.int .u64 p, .slice (some ⟨b, off, none⟩) zs.length cap] w fun e w' => e = .returned (.bool true) ∧ Below w.heap.size w w' := by
  have HV := Lib.hid (inverses_bad p (.slice (some ⟨b, off, none⟩) zs.length cap) zs w hp hv hN)
  have HR := Lib.hid fun w1 (h : Below w.heap.size w w1) => right_any p (.slice (some ⟨b, off, none⟩) zs.length cap) zs w1 (by omega) (nums_below hN h) (c := 2) (by rw [hv]; rfl)
  have hlen := hN.2.1
  have HB := Lib.hid hb
  have HC0 := Lib.hid hcell
  clear hv hN hp hb hcell
  go_enter Try.func7, Try.ntmps7
  go_wp2_with fail
  refine HV.out.mono ?_
  rintro e w1 ⟨rfl, hb1⟩
  have B1 := Lib.hid hb1
  have HC := Lib.hid fun k hk => (hb1.cell (p := ⟨b, off + k, none⟩) HB.out).trans (HC0.out k hk)
  have HR1 := Lib.hid (HR.out w1 hb1)
  clear hb1
  go_wp2_with fail
  refine HR1.out.mono ?_
  rintro e w' ⟨rfl, rfl⟩
  go_wp2_with fail
  go_loop [7, 23] (fun tb ti => ∃ k : Nat, k ≤ zs.length ∧ ti = .int .i64 k ∧ tb = .int .i64 2) (fun _ ti => zs.length - (intOf ti).toNat)
  case atStart => exact ⟨0, by omega, rfl, rfl⟩
  case round =>
    obtain ⟨k, hk, rfl, rfl⟩ := hrel
    by_cases hlt : k < zs.length
    · have hc := HC.out k hlt
      obtain ⟨x, hx⟩ : ∃ x, x = zs.getD k 0 := ⟨_, rfl⟩
      rw [← hx] at hc
      clear hx
      go_wp2_with fail
      go_round
      case rel => exact ⟨k + 1, by omega, by go_num, rfl⟩
      case measure => simp [intOf]; omega
    · obtain rfl : k = zs.length := by omega
      go_wp2_with fail
      refine (alive_any _).mono ?_
      rintro e w4 ⟨rfl, hb4⟩
      have B4 := Lib.hid (bnext B1.out hb4)
      clear hb4
      go_wp2_with fail
      go_ret
      exact ⟨rfl, B4.out⟩

set_option maxHeartbeats 1000000 in
theorem walk_bad_nil (w : World) (p cap : Nat) (av : Option Addr) (hN : Nums w (.slice av 0 cap) []) (hp : p < 18446744073709551616) (hv : M.validB p [] = false) :
    Calls Try.prog 7 #[.int .u64 p, .slice av 0 cap] w fun e w' => e = .returned (.bool true) ∧ Below w.heap.size w w' := by
  have HV := Lib.hid (inverses_bad p (.slice av 0 cap) [] w hp hv hN)
  have HR := Lib.hid fun w1 (h : Below w.heap.size w w1) => right_any p (.slice av 0 cap) [] w1 (by omega) (nums_below hN h) (c := 2) (by rw [hv]; rfl)
  clear hv hN hp
  go_enter Try.func7, Try.ntmps7
  go_wp2_with fail
  refine HV.out.mono ?_
  rintro e w1 ⟨rfl, hb1⟩
  have B1 := Lib.hid hb1
  have HR1 := Lib.hid (HR.out w1 hb1)
  clear hb1
  go_wp2_with fail
  refine HR1.out.mono ?_
  rintro e w' ⟨rfl, rfl⟩
  go_wp2_with fail
  go_loop [7, 23] (fun tb ti => ti = .int .i64 0 ∧ tb = .int .i64 2) (fun _ _ => 0)
  case atStart => exact ⟨rfl, rfl⟩
  case round =>
    obtain ⟨rfl, rfl⟩ := hrel
    go_wp2_with fail
    refine (alive_any _).mono ?_
    rintro e w4 ⟨rfl, hb4⟩
    have B4 := Lib.hid (bnext B1.out hb4)
    clear hb4
    go_wp2_with fail
    go_ret
    exact ⟨rfl, B4.out⟩

set_option maxHeartbeats 1000000 in
theorem walk_zero (w : World) (p b off cap : Nat) (zs : List Nat) (hN : Nums w (.slice (some ⟨b, off, none⟩) zs.length cap) zs) (hb : b < w.heap.size) (hcell : ∀ i, i < zs.length → w.cell? ⟨b, off + i, none⟩ = some (.int .u64 (zs.getD i 0))) (hv : M.validB p zs = true) (h0 : ¬ NoZero zs zs.length) :
    Calls Try.prog 7 #[.int .u64 p, .slice (some ⟨b, off, none⟩) zs.length cap] w fun e w' => e = .returned (.bool true) ∧ Below w.heap.size w w' := by
  obtain ⟨h3, hp⟩ := M.pos_of (M.validB_isP hv)
  have HV := Lib.hid (inverses_zero p (.slice (some ⟨b, off, none⟩) zs.length cap) zs w (by omega) hv h0 hN)
  have HR := Lib.hid fun w1 (h : Below w.heap.size w w1) => right_any p (.slice (some ⟨b, off, none⟩) zs.length cap) zs w1 (by omega) (nums_below hN h) (c := 0) (by rw [hv]; rfl)
  have hlen := hN.2.1
  have HB := Lib.hid hb
  have HC0 := Lib.hid hcell
  have H0 := Lib.hid h0
  clear hv hN h0 hb hcell
  go_enter Try.func7, Try.ntmps7
  go_wp2_with fail
  refine HV.out.mono ?_
  rintro e w1 ⟨rfl, hb1⟩
  have B1 := Lib.hid hb1
  have HC := Lib.hid fun k hk => (hb1.cell (p := ⟨b, off + k, none⟩) HB.out).trans (HC0.out k hk)
  have HR1 := Lib.hid (HR.out w1 hb1)
  clear hb1
  go_wp2_with fail
  refine HR1.out.mono ?_
  rintro e w' ⟨rfl, rfl⟩
  go_wp2_with fail
  go_loop [7, 23] (fun tb ti => ∃ (k : Nat) (c : Int), k ≤ zs.length ∧ ti = .int .i64 k ∧ tb = .int .i64 c ∧ ((c = 0 ∧ NoZero zs k) ∨ (c = 7 ∧ ¬ NoZero zs k))) (fun _ ti => zs.length - (intOf ti).toNat)
  case atStart => exact ⟨0, 0, by omega, rfl, rfl, .inl ⟨rfl, fun i hi => by omega⟩⟩
  case round =>
    obtain ⟨k, c, hk, rfl, rfl, hcz⟩ := hrel
    by_cases hlt : k < zs.length
    · have hc := HC.out k hlt
      obtain ⟨x, hx⟩ : ∃ x, x = zs.getD k 0 := ⟨_, rfl⟩
      rw [← hx] at hc
      rcases hcz with ⟨rfl, hn⟩ | ⟨rfl, hn⟩
      · by_cases hx0 : x = 0
        · have hne : ¬ NoZero zs (k + 1) := fun h => h k (by omega) (by rw [← hx]; exact hx0)
          have HN := Lib.hid hne
          subst hx0
          clear hx hn hne
          go_wp2_with fail
          go_round
          case rel => exact ⟨k + 1, 7, by omega, by go_num, rfl, .inr ⟨rfl, HN.out⟩⟩
          case measure => simp [intOf]; omega
        · have hb0 : ((x : Int) == 0) = false := by simp; omega
          have hne : NoZero zs (k + 1) := fun i hi => by
            by_cases e : i = k
            · subst e; rw [← hx]; exact hx0
            · exact hn i (by omega)
          have HN := Lib.hid hne
          clear hx hn hne hx0
          go_wp2_with fail
          go_round
          case rel => exact ⟨k + 1, 0, by omega, by go_num, rfl, .inl ⟨rfl, HN.out⟩⟩
          case measure => simp [intOf]; omega
      · have hne : ¬ NoZero zs (k + 1) := fun h => hn fun i hi => h i (by omega)
        have HN := Lib.hid hne
        clear hx hn hne
        go_wp2_with fail
        go_round
        case rel => exact ⟨k + 1, 7, by omega, by go_num, rfl, .inr ⟨rfl, HN.out⟩⟩
        case measure => simp [intOf]; omega
    · obtain rfl : k = zs.length := by omega
      obtain rfl : c = 7 := by
        rcases hcz with ⟨_, h⟩ | ⟨h, _⟩
        · exact absurd h H0.out
        · exact h
      clear hcz
      go_wp2_with fail
      refine (alive_any _).mono ?_
      rintro e w4 ⟨rfl, hb4⟩
      have B4 := Lib.hid (bnext B1.out hb4)
      clear hb4
      go_wp2_with fail
      go_ret
      exact ⟨rfl, B4.out⟩

set_option maxHeartbeats 1000000 in
theorem walk_ok_cells (w : World) (p b off cap : Nat) (zs : List Nat) (hN : Nums w (.slice (some ⟨b, off, none⟩) zs.length cap) zs) (hb : b < w.heap.size) (hcell : ∀ i, i < zs.length → w.cell? ⟨b, off + i, none⟩ = some (.int .u64 (zs.getD i 0))) (hv : M.validB p zs = true) (h0 : NoZero zs zs.length) :
    Calls Try.prog 7 #[.int .u64 p, .slice (some ⟨b, off, none⟩) zs.length cap] w fun e w' => e = .returned (.bool true) ∧ Below w.heap.size w w' := by
  obtain ⟨h3, hp⟩ := M.pos_of (M.validB_isP hv)
  have HV := Lib.hid (inverses_ok p (.slice (some ⟨b, off, none⟩) zs.length cap) zs w hv h0 hN)
  have HR := Lib.hid fun w1 (h : Below w.heap.size w w1) => right_any p (.slice (some ⟨b, off, none⟩) zs.length cap) zs w1 (by omega) (nums_below hN h) (c := 0) (by rw [hv]; rfl)
  have hlen := hN.2.1
  have HB := Lib.hid hb
  have HC0 := Lib.hid hcell
  have H0 := Lib.hid h0
  have HW := Lib.hid (M.validB_within hv)
  clear hv hN h0 hb hcell
  go_enter Try.func7, Try.ntmps7
  go_wp2_with fail
  refine HV.out.mono ?_
  rintro e w1 ⟨rfl, hb1, hsz, hres⟩
  have B1 := Lib.hid hb1
  have HRES := Lib.hid hres
  clear hres
  have HC := Lib.hid fun k hk => (hb1.cell (p := ⟨b, off + k, none⟩) HB.out).trans (HC0.out k hk)
  have HR1 := Lib.hid (HR.out w1 hb1)
  clear hb1
  go_wp2_with fail
  refine HR1.out.mono ?_
  rintro e w' ⟨rfl, rfl⟩
  go_wp2_with fail
  go_loop [7, 23] (fun tb ti => ∃ k : Nat, k ≤ zs.length ∧ ti = .int .i64 k ∧ tb = .int .i64 0) (fun _ ti => zs.length - (intOf ti).toNat)
  case atStart => exact ⟨0, by omega, rfl, rfl⟩
  case round =>
    obtain ⟨k, hk, rfl, rfl⟩ := hrel
    by_cases hlt : k < zs.length
    · have hc := HC.out k hlt
      have hx0 := H0.out k hlt
      obtain ⟨x, hx⟩ : ∃ x, x = zs.getD k 0 := ⟨_, rfl⟩
      rw [← hx] at hc hx0
      have hb0 : ((x : Int) == 0) = false := by simp; omega
      clear hx hx0
      go_wp2_with fail
      go_round
      case rel => exact ⟨k + 1, by omega, by go_num, rfl⟩
      case measure => simp [intOf]; omega
    · obtain rfl : k = zs.length := by omega
      go_wp2_with fail
      go_loopw [58] (fun ti wr => ∃ k : Nat, k ≤ zs.length ∧ ti = .int .i64 k ∧ Below w1.heap.size w1 wr) (fun ti _ => zs.length - (intOf ti).toNat)
      case atStart => exact ⟨0, by omega, rfl, Below.refl _ _⟩
      case round =>
        obtain ⟨k, hk, rfl, hB⟩ := hrel
        by_cases hlt : k < zs.length
        · have hc := (hB.cell (p := ⟨b, off + k, none⟩) (Nat.lt_of_lt_of_le HB.out B1.out.size)).trans (HC.out k hlt)
          have hg := (hB.cell (p := ⟨w.heap.size + 1, k, none⟩) hsz).trans (HRES.out k hlt)
          have hxl := M.within_mem HW.out hlt
          obtain ⟨x, hx⟩ : ∃ x, x = zs.getD k 0 := ⟨_, rfl⟩
          rw [← hx] at hc hg hxl
          have hin := fun wx => refInv_any p x wx h3 hp hxl
          obtain ⟨y, hy⟩ : ∃ y, y = M.pw p x (p - 2) := ⟨_, rfl⟩
          rw [← hy] at hg hin
          have HI1 := Lib.hid hin
          have HB2 := Lib.hid hB
          clear hx hy hin hxl hB
          go_wp2_with fail
          go_quiet (first | (go_at_call 27; exact Calls.quiet_of_same ((HI1.out _).mono fun e w' ⟨h1, h2⟩ => ⟨h1, h2.symm⟩)))
          go_wp2_with fail
          go_roundw
          case rel => exact ⟨k + 1, by omega, by go_num, below_drewN HB2.out _⟩
          case measure => simp [intOf]; omega
        · obtain rfl : k = zs.length := by omega
          have B2 := Lib.hid (bnext B1.out hB)
          clear hB
          go_wp2_with fail
          refine (alive_any _).mono ?_
          rintro e w4 ⟨rfl, hb4⟩
          have B4 := Lib.hid (bnext B2.out hb4)
          clear hb4
          go_wp2_with fail
          go_ret
          exact ⟨rfl, B4.out⟩

set_option maxHeartbeats 1000000 in
theorem walk_ok_nil (w : World) (p cap : Nat) (av : Option Addr) (hN : Nums w (.slice av 0 cap) []) (hv : M.validB p [] = true) :
    Calls Try.prog 7 #[.int .u64 p, .slice av 0 cap] w fun e w' => e = .returned (.bool true) ∧ Below w.heap.size w w' := by
  obtain ⟨h3, hp⟩ := M.pos_of (M.validB_isP hv)
  have HV := Lib.hid (inverses_ok p (.slice av 0 cap) [] w hv (fun i hi => by simp at hi) hN)
  have HR := Lib.hid fun w1 (h : Below w.heap.size w w1) => right_any p (.slice av 0 cap) [] w1 (by omega) (nums_below hN h) (c := 0) (by rw [hv]; rfl)
  clear hv hN
  go_enter Try.func7, Try.ntmps7
  go_wp2_with fail
  refine HV.out.mono ?_
  rintro e w1 ⟨rfl, hb1, hsz, hres⟩
  have B1 := Lib.hid hb1
  have HRES := Lib.hid hres
  clear hres
  have HR1 := Lib.hid (HR.out w1 hb1)
  clear hb1
  go_wp2_with fail
  refine HR1.out.mono ?_
  rintro e w' ⟨rfl, rfl⟩
  go_wp2_with fail
  go_loop [7, 23] (fun tb ti => ti = .int .i64 0 ∧ tb = .int .i64 0) (fun _ _ => 0)
  case atStart => exact ⟨rfl, rfl⟩
  case round =>
    obtain ⟨rfl, rfl⟩ := hrel
    go_wp2_with fail
    go_loop [58] (fun ti => ti = .int .i64 0) (fun _ => 0)
    case atStart => rfl
    case round =>
      obtain rfl := hrel
      go_wp2_with fail
      refine (alive_any _).mono ?_
      rintro e w4 ⟨rfl, hb4⟩
      have B4 := Lib.hid (bnext B1.out hb4)
      clear hb4
      go_wp2_with fail
      go_ret
      exact ⟨rfl, B4.out⟩

theorem walk (w : World) (p : Nat) (hp : p < 18446744073709551616) (v : Value) (zs : List Nat) (hN : Nums w v zs) :
    Calls Try.prog 7 #[.int .u64 p, v] w fun e w' => e = .returned (.bool true) ∧ Below w.heap.size w w' := by
  have hN' := hN
  obtain ⟨h1, h2, h3⟩ := hN
  cases hv : M.validB p zs with
  | false =>
    rcases h3 with ⟨a, cap, rfl, rfl, _⟩ | ⟨b, off, cap, rfl, hc, hb, hcell⟩
    · exact walk_bad_nil w p cap a hN' hp hv
    · exact walk_bad_cells w p b off cap zs hN' hb hcell hp hv
  | true =>
    rcases h3 with ⟨a, cap, rfl, rfl, _⟩ | ⟨b, off, cap, rfl, hc, hb, hcell⟩
    · exact walk_ok_nil w p cap a hN' hv
    · by_cases h0 : NoZero zs zs.length
      · exact walk_ok_cells w p b off cap zs hN' hb hcell hv h0
      · exact walk_zero w p b off cap zs hN' hb hcell hv h0
end Go.Proofs.Ytlcljbncegjdiaa.fieldInversesW
