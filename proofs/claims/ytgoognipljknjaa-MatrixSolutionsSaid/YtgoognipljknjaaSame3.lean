/-
  The contract of Same of the reference.
-/
import Derived.Test.YtgoognipljknjaaGive
import Derived.Deep.Draws
namespace Go.Proofs.Ytgoognipljknjaa
open Go.RowKit
set_option linter.unusedVariables false
set_option maxRecDepth 100000

set_option maxHeartbeats 400000 in
theorem same_cells (zs : List Nat) (b off cap b2 off2 cap2 : Nat) (w : World) (hl : zs.length ≤ 17592186043904) (hb : b < w.heap.size) (hb2 : b2 < w.heap.size)
    (h1 : ∀ i, i < zs.length → w.cell? ⟨b, off + i, none⟩ = some (.int .u64 (zs.getD i 0)))
    (h2 : ∀ i, i < zs.length → w.cell? ⟨b2, off2 + i, none⟩ = some (.int .u64 (zs.getD i 0))) :
    Calls Try.prog 22 #[.slice (some ⟨b, off, none⟩) zs.length cap, .slice (some ⟨b2, off2, none⟩) zs.length cap2] w fun e w' => e = .returned (.bool true) ∧ Below w.heap.size w w' := by
  have H1 := Lib.hid h1
  have H2 := Lib.hid h2
  clear h1 h2
  go_enter Try.func22, Try.ntmps22
  go_wp2
  go_loopw [13] (fun t wr => ∃ k : Nat, k ≤ zs.length ∧ t = .int .i64 k ∧ Below w.heap.size w wr) (fun t _ => zs.length - (intOf t).toNat)
  case atStart => exact ⟨0, by omega, rfl, Below.refl _ _⟩
  case round =>
    obtain ⟨k, hk, rfl, hbw⟩ := hrel
    by_cases hlt : k < zs.length
    · have c1 : wr.cell? ⟨b, off + k, none⟩ = some (.int .u64 (zs.getD k 0)) := (hbw.cell (p := ⟨b, off + k, none⟩) hb).trans (H1.out k hlt)
      have c2 : wr.cell? ⟨b2, off2 + k, none⟩ = some (.int .u64 (zs.getD k 0)) := (hbw.cell (p := ⟨b2, off2 + k, none⟩) hb2).trans (H2.out k hlt)
      obtain ⟨x, hx⟩ : ∃ x, x = zs.getD k 0 := ⟨_, rfl⟩
      rw [← hx] at c1 c2
      clear hx
      have hi : (k : Int) < (zs.length : Int) := by omega
      have HB := Lib.hid hbw
      clear hbw
      go_wp2
      go_quiet (fail)
      go_wp2
      go_roundw
      case rel => exact ⟨k + 1, by omega, by go_num, below_drewN HB.out _⟩
      case measure => simp [intOf]; omega
    · go_wp2
      go_ret
      exact ⟨rfl, hbw⟩

set_option maxHeartbeats 400000 in
theorem same_none (a a2 : Option Addr) (cap cap2 : Nat) (w : World) :
    Calls Try.prog 22 #[.slice a 0 cap, .slice a2 0 cap2] w fun e w' => e = .returned (.bool true) ∧ Below w.heap.size w w' := by
  go_enter Try.func22, Try.ntmps22
  go_wp2
  go_loopw [13] (fun t wr => t = .int .i64 0 ∧ Below w.heap.size w wr) (fun _ _ => 0)
  case atStart => exact ⟨rfl, Below.refl _ _⟩
  case round =>
    obtain ⟨rfl, hbw⟩ := hrel
    go_wp2
    go_ret
    exact ⟨rfl, hbw⟩

theorem same_any (va vb : Value) (zs : List Nat) (w : World) (ha : Nums w va zs) (hb : Nums w vb zs) :
    Calls Try.prog 22 #[va, vb] w fun e w' => e = .returned (.bool true) ∧ Below w.heap.size w w' := by
  obtain ⟨_, hl, ha⟩ := ha
  obtain ⟨_, _, hb⟩ := hb
  rcases ha with ⟨a, cap, rfl, rfl, _⟩ | ⟨b, off, cap, rfl, hc, hlt, hcell⟩
  · rcases hb with ⟨a2, cap2, rfl, _⟩ | ⟨b2, off2, cap2, rfl, _, _, _⟩
    · exact same_none a a2 cap cap2 w
    · exact same_none a _ cap cap2 w
  · rcases hb with ⟨a2, cap2, rfl, rfl, _⟩ | ⟨b2, off2, cap2, rfl, hc2, hlt2, hcell2⟩
    · exact same_none _ a2 cap cap2 w
    · exact same_cells zs b off cap b2 off2 cap2 w hl hlt hlt2 hcell hcell2

end Go.Proofs.Ytgoognipljknjaa
