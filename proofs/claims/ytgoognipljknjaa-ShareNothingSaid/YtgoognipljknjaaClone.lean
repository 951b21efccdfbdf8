/-
  Contracts that make slices: slices.Clone; Same of the reference.
-/
import Derived.Test.YtgoognipljknjaaQuot
import Derived.ArgAppend
import Derived.OwnWalk
import Derived.BigQuiet
import Derived.Deep.QuietTactic
namespace Go.Proofs.Ytgoognipljknjaa
open Go.RowKit
set_option linter.unusedVariables false

/-- a call hands back a slice that reads as zs; nothing that was there has turned -/
def Gives (w : World) (zs : List Nat) (e : Ending) (w' : World) : Prop := ∃ v', e = .returned v' ∧ Nums w' v' zs ∧ Below w.heap.size w w'

theorem infoU64 : (Try.prog.info? 22).map (fun i => (i.zero, i.size, i.bytes)) = some (some (.int .u64 0), 1, 8) := by kernel_rfl

set_option maxHeartbeats 400000 in
theorem clone_nil (cap : Nat) (w : World) :
    Calls Try.prog 109 #[.slice none 0 cap] w fun e w' => e = .returned (.slice none 0 0) ∧ w = w' := by
  have h1 := Lib.run_eql_slice_nil (P := Try.prog) w 24 22 none 0 cap 0 0 Try.underlying24
  go_enter Try.func109, Try.ntmps109
  go_wp2
  go_ret
  exact ⟨rfl, rfl⟩

set_option maxHeartbeats 400000 in
theorem clone_some (x : Addr) (zs : List Nat) (cap : Nat) (w : World) (hl : zs.length ≤ 17592186043904) (hz : ∀ n ∈ zs, n < 18446744073709551616)
    (hcell : ∀ j u, (zs.map fun (z : Nat) => Value.int .u64 z)[j]? = some u → w.cell? (x.add j) = some u) :
    Calls Try.prog 109 #[.slice (some x) zs.length cap] w (Gives w zs) := by
  have h1 := Lib.run_eql_slice_nil (P := Try.prog) w 24 22 (some x) zs.length cap 0 0 Try.underlying24
  obtain ⟨i0, hi, hz0, hz1, hz2⟩ := info_parts infoU64
  have HC := Lib.hid hcell
  have HL := Lib.hid hl
  have HZ := Lib.hid hz
  clear hcell hl hz
  go_enter Try.func109, Try.ntmps109
  go_wp2_with (at_builtin; refine wpList_append_own _ rfl _ _ 24 rfl w.heap.size 22 i0 (.int .u64 0) 1 8 Try.underlying24 hi hz0 hz1 hz2 rfl (by decide) _ _ _ rfl (World.ownsRow_made w #[] 0 (Nat.le_refl _) (by decide) rfl) x zs.length cap (zs.map fun (z : Nat) => Value.int .u64 z) rfl ?c0 ?c1 ?c2 ?c3 ?c4 ?c5 ?_)
  case c0 => simp
  case c1 =>
    intro j u hu
    have h := HC.out j u hu
    exact (Below.cell (Below.alloc (Below.refl _ _) (Nat.le_refl _) _) (World.block_lt_of_cell? w _ h)).trans h
  case c2 => intro u hu; simp at hu; obtain ⟨z, _, rfl⟩ := hu; rfl
  case c3 => have := HL.out; unfold maxLen; omega
  case c4 => have := HL.out; omega
  case c5 => simp
  intro v' w1 hown hgrow _
  have HO := Lib.hid hown
  have HG := Lib.hid hgrow
  clear hown hgrow
  go_wp2
  go_ret
  exact ⟨v', rfl, nums_of_owns HO.out HZ.out HL.out, ((Below.refl _ _).alloc (Nat.le_refl _) _).grown HG.out (by simp) (fun k hk => by simp [Value.ownBlock] at hk; omega)⟩

theorem clone_any (v : Value) (zs : List Nat) (w : World) (hv : Nums w v zs) : Calls Try.prog 109 #[v] w (Gives w zs) := by
  obtain ⟨h1, h2, h3⟩ := hv
  rcases h3 with ⟨a, cap, rfl, rfl, _⟩ | ⟨b, off, cap, rfl, hc, hb, hcell⟩
  · cases a with
    | none => exact (clone_nil cap w).mono fun e w' ⟨he, hw⟩ => ⟨_, he, hw ▸ ⟨h1, h2, .inl ⟨none, 0, rfl, rfl, fun _ => rfl⟩⟩, hw ▸ Below.refl _ _⟩
    | some x => exact clone_some x [] cap w h2 h1 (fun j u hu => by simp at hu)
  · refine clone_some _ zs cap w h2 h1 (fun j u hu => ?_)
    rw [Addr.add_lit]
    have hj : j < zs.length := by
      apply Nat.lt_of_not_le; intro hc
      rw [List.getElem?_eq_none (by simpa using hc)] at hu; cases hu
    rw [hcell j hj]
    simp [List.getD_eq_getElem?_getD, hj] at hu ⊢
    exact hu
end Go.Proofs.Ytgoognipljknjaa
