/-
  Tokens: the chapter's example.
-/
import Derived.OwnWalk
import Derived.Test.YtagdbbikhegoaaaDoorKx
import Derived.Test.YtagdbbikhegoaaaDoorWb
import Derived.Deep.RegionHeld3
namespace Go.Proofs.YtagdbbikhegoaaaDoor
open Go.RowKit
set_option linter.unusedVariables false
set_option maxRecDepth 100000
def exS : ByteArray := ⟨#[108, 101, 116, 32, 97, 61, 98, 61, 61, 51, 59, 47, 47, 32, 120]⟩
def exA : List T8 := [⟨1, ⟨#[108, 101, 116]⟩, 0⟩, ⟨1, ⟨#[97]⟩, 4⟩, ⟨3, ⟨#[61]⟩, 5⟩, ⟨1, ⟨#[98]⟩, 6⟩, ⟨3, ⟨#[61, 61]⟩, 7⟩, ⟨2, ⟨#[51]⟩, 9⟩, ⟨3, ⟨#[59]⟩, 10⟩]
def exT : List M.Tok := [⟨1, [108, 101, 116], 0⟩, ⟨1, [97], 4⟩, ⟨3, [61], 5⟩, ⟨1, [98], 6⟩, ⟨3, [61, 61], 7⟩, ⟨2, [51], 9⟩, ⟨3, [59], 10⟩]
theorem exT_reads : M.Reads 15 (M.skipL (M.bs exS)) exT 0 0 := by
  rw [show M.skipL (M.bs exS) = [108, 101, 116, 32, 97, 61, 98, 61, 61, 51, 59, 47, 47, 32, 120] by show M.skipL [108, 101, 116, 32, 97, 61, 98, 61, 61, 51, 59, 47, 47, 32, 120] = _; simp [M.skipL, M.blankB]]
  refine .step (k := 1) (t := [108, 101, 116]) (by decide) (by decide) ?_
  rw [show M.skipL (List.drop (List.length (α := Nat) [108, 101, 116]) [108, 101, 116, 32, 97, 61, 98, 61, 61, 51, 59, 47, 47, 32, 120]) = [97, 61, 98, 61, 61, 51, 59, 47, 47, 32, 120] by show M.skipL [32, 97, 61, 98, 61, 61, 51, 59, 47, 47, 32, 120] = _; simp [M.skipL, M.blankB]]
  refine .step (k := 1) (t := [97]) (by decide) (by decide) ?_
  rw [show M.skipL (List.drop (List.length (α := Nat) [97]) [97, 61, 98, 61, 61, 51, 59, 47, 47, 32, 120]) = [61, 98, 61, 61, 51, 59, 47, 47, 32, 120] by show M.skipL [61, 98, 61, 61, 51, 59, 47, 47, 32, 120] = _; simp [M.skipL, M.blankB]]
  refine .step (k := 3) (t := [61]) (by decide) (by decide) ?_
  rw [show M.skipL (List.drop (List.length (α := Nat) [61]) [61, 98, 61, 61, 51, 59, 47, 47, 32, 120]) = [98, 61, 61, 51, 59, 47, 47, 32, 120] by show M.skipL [98, 61, 61, 51, 59, 47, 47, 32, 120] = _; simp [M.skipL, M.blankB]]
  refine .step (k := 1) (t := [98]) (by decide) (by decide) ?_
  rw [show M.skipL (List.drop (List.length (α := Nat) [98]) [98, 61, 61, 51, 59, 47, 47, 32, 120]) = [61, 61, 51, 59, 47, 47, 32, 120] by show M.skipL [61, 61, 51, 59, 47, 47, 32, 120] = _; simp [M.skipL, M.blankB]]
  refine .step (k := 3) (t := [61, 61]) (by decide) (by decide) ?_
  rw [show M.skipL (List.drop (List.length (α := Nat) [61, 61]) [61, 61, 51, 59, 47, 47, 32, 120]) = [51, 59, 47, 47, 32, 120] by show M.skipL [51, 59, 47, 47, 32, 120] = _; simp [M.skipL, M.blankB]]
  refine .step (k := 2) (t := [51]) (by decide) (by decide) ?_
  rw [show M.skipL (List.drop (List.length (α := Nat) [51]) [51, 59, 47, 47, 32, 120]) = [59, 47, 47, 32, 120] by show M.skipL [59, 47, 47, 32, 120] = _; simp [M.skipL, M.blankB]]
  refine .step (k := 3) (t := [59]) (by decide) (by decide) ?_
  rw [show M.skipL (List.drop (List.length (α := Nat) [59]) [59, 47, 47, 32, 120]) = [] by show M.skipL [47, 47, 32, 120] = _; simp [M.skipL, M.blankB]]
  exact .done
theorem ex_view : View exA exT := rfl
theorem ex_readsT : ReadsT (M.bs exS) exT 0 0 := .inr ⟨by decide, exT_reads⟩
theorem ex_write : writeE exA = 0 := by decide
theorem ex_join : M.joinL (textsT exA) = M.bs ⟨#[108, 101, 116, 32, 97, 32, 61, 32, 98, 32, 61, 61, 32, 51, 32, 59]⟩ := by decide
/-- what Read answers at the example -/
theorem ex_read {w w' : World} {e : Ending} (h : ReadEnd exS w e w') : ∃ A cap, e = .returned (.tuple #[.slice A 7 cap, .int .i64 0, .int .i64 0]) ∧ TokS w' (.slice A 7 cap) exA ∧ Below w.heap.size w w' := by
  obtain ⟨A, ts, v, p, E, rfl, hv, hr, h1, h2, hb⟩ := h
  obtain ⟨rfl, rfl, rfl⟩ := hr.one ex_readsT
  obtain rfl := (h1 rfl).one ex_view
  obtain ⟨_, Aa, cap, rfl, _⟩ := id hv
  exact ⟨Aa, cap, rfl, hv, hb⟩
theorem ex_write_any (v : Value) (w : World) (hv : TokS w v exA) : Calls Tryd.prog 15 #[v] w fun e w' => e = .returned (.tuple #[.string ⟨#[108, 101, 116, 32, 97, 32, 61, 32, 98, 32, 61, 61, 32, 51, 32, 59]⟩, .int .i64 0]) ∧ Below w.heap.size w w' := by
  refine (write_any v exA w hv (by intro t ht; simp [exA] at ht; rcases ht with rfl | rfl | rfl | rfl | rfl | rfl | rfl <;> decide)).mono ?_
  rintro e w' ⟨T, rfl, hT, hb⟩
  rw [ex_write, if_pos rfl, ex_join] at hT
  rw [ex_write, M.bs_inj hT]
  exact ⟨rfl, hb⟩

set_option maxHeartbeats 4000000 in
theorem alive_any (w : World) : Calls Tryd.prog 9 #[] w fun e w' => e = .returned (.bool true) ∧ Below w.heap.size w w' := by
  have hud : ∀ b : Bool, undef ≠ Value.bool b := fun b h => by cases h
  have RD := Lib.hid (show Calls Tryd.prog 14 #[.string ⟨#[108, 101, 116, 32, 97, 61, 98, 61, 61, 51, 59, 47, 47, 32, 120]⟩] w (ReadEnd exS w) from read_any exS w (by decide))
  have WR := Lib.hid fun v w h => ex_write_any v w h
  go_enter Tryd.func9, Tryd.ntmps9
  go_wp2_with fail
  (with_reducible refine (RD.out).mono ?_)
  rintro e w1 hr
  obtain ⟨A, cap, rfl, hv, hb⟩ := ex_read hr
  have HB := Lib.hid hb
  have HV := Lib.hid hv
  clear hr hv hb RD
  go_wp2_with fail
  have hwant : ∀ k, k < 7 → (w1.alloc (.cells #[.int .i64 0, .int .i64 4, .int .i64 5, .int .i64 6, .int .i64 7, .int .i64 9, .int .i64 10] 3)).cell? ⟨w1.heap.size, k, none⟩ = some (.int .i64 (exA.getD k T8.no).off) := by
    intro k hk
    rcases (show k = 0 ∨ k = 1 ∨ k = 2 ∨ k = 3 ∨ k = 4 ∨ k = 5 ∨ k = 6 by omega) with rfl | rfl | rfl | rfl | rfl | rfl | rfl <;> simp [exA]
  obtain ⟨W2, eW2⟩ : ∃ W, W = w1.alloc (.cells #[.int .i64 0, .int .i64 4, .int .i64 5, .int .i64 6, .int .i64 7, .int .i64 9, .int .i64 10] 3) := ⟨_, rfl⟩
  have hW2 : w1.heap.size < W2.heap.size := by rw [eW2]; simp
  have HBW := Lib.hid (show Below w1.heap.size w1 W2 by rw [eW2]; exact (Below.refl _ _).alloc (Nat.le_refl _) _)
  have HV2 := Lib.hid (HV.out.below HBW.out)
  have HB2 := Lib.hid (bnext8 HB.out HBW.out)
  rw [← eW2] at hwant ⊢
  have HWT := Lib.hid hwant
  have hlen : exA.length = 7 := rfl
  have HLN := Lib.hid hlen
  clear hwant eW2 HV HB HBW
  obtain ⟨-, A2, c2, e2, -, hcells⟩ := id HV2.out
  have HC := Lib.hid hcells
  cases e2
  clear hcells
  obtain ⟨b, off, rfl, hbl, hcell⟩ := HC.out (by rw [hlen]; omega)
  have HCE := Lib.hid hcell
  clear hcell HC hlen
  go_loopw [30] (fun ti wr => ∃ k : Nat, k ≤ 7 ∧ ti = .int .i64 k ∧ Below W2.heap.size W2 wr) (fun ti _ => 7 - (intOf ti).toNat)
  case atStart => exact ⟨0, by omega, rfl, Below.refl _ _⟩
  case round =>
    obtain ⟨k, hk, rfl, hB⟩ := hrel
    have HBR := Lib.hid hB
    have hsz := hB.size
    clear hB
    by_cases hlt : k < 7
    · obtain ⟨x0, x1, x2⟩ := HCE.out k (by rw [HLN.out]; exact hlt)
      have p0 := (HBR.out.cell (p := ⟨b, off + k * 3, none⟩) hbl).trans x0
      have p1 := (HBR.out.cell (p := ⟨b, off + k * 3 + 1, none⟩) hbl).trans x1
      have p2 := (HBR.out.cell (p := ⟨b, off + k * 3 + 2, none⟩) hbl).trans x2
      have pw := (HBR.out.cell (p := ⟨w1.heap.size, k, none⟩) hW2).trans (HWT.out k hlt)
      obtain ⟨K, eK⟩ : ∃ K, K = (exA.getD k T8.no).kind := ⟨_, rfl⟩
      obtain ⟨T, eT⟩ : ∃ T, T = (exA.getD k T8.no).text := ⟨_, rfl⟩
      obtain ⟨O, eO⟩ : ∃ O, O = (exA.getD k T8.no).off := ⟨_, rfl⟩
      rw [← eK] at p0
      rw [← eT] at p1
      rw [← eO] at p2 pw
      have HBX := Lib.hid (HBR.out.alloc HBR.out.size (.cells #[.int .i64 K, .string T, .int .i64 O] 39))
      have hne : w1.heap.size ≠ wr.heap.size := by omega
      have hne2 : ¬ wr.heap.size = w1.heap.size := by omega
      have hltw : w1.heap.size < wr.heap.size := by omega
      clear x0 x1 x2 eK eT eO
      have pw2 := ((balloc8 wr (.cells #[.int .i64 K, .string T, .int .i64 O] 39)).cell (p := ⟨w1.heap.size, k, none⟩) hltw).trans pw
      have pb : (wr.alloc (.cells #[.int .i64 K, .string T, .int .i64 O] 39)).cell? ⟨wr.heap.size, 2, none⟩ = some (.int .i64 O) := by simp
      go_wp2_with fail
      go_region
      go_wp2_with fail
      go_roundw
      case rel => exact ⟨k + 1, by omega, by go_num, HBX.out.drew⟩
      case measure => simp [intOf]; omega
    · obtain rfl : k = 7 := by omega
      have HV3 := Lib.hid (HV2.out.below HBR.out)
      have W3 := Lib.hid (WR.out _ wr HV3.out)
      have HB3 := Lib.hid (bnext8 HB2.out HBR.out)
      go_wp2_with fail
      (with_reducible refine (W3.out).mono ?_)
      rintro e w4 ⟨rfl, hb4⟩
      have HB4 := Lib.hid (bnext8 HB3.out hb4)
      have hcl := fun i hi => (hb4.cell (p := ⟨b, off + i * 3, none⟩) (Nat.lt_of_lt_of_le hbl hsz)).trans ((HBR.out.cell (p := ⟨b, off + i * 3, none⟩) hbl).trans (HCE.out i (by rw [HLN.out]; exact hi)).1)
      have q0 : w4.cell? ⟨b, off, none⟩ = some (.int .i64 1) := hcl 0 (by decide)
      have q4 : w4.cell? ⟨b, off + 12, none⟩ = some (.int .i64 3) := hcl 4 (by decide)
      have q5 : w4.cell? ⟨b, off + 15, none⟩ = some (.int .i64 2) := hcl 5 (by decide)
      clear hcl hb4
      go_wp2_with fail
      go_ret
      exact ⟨rfl, HB4.out⟩
end Go.Proofs.YtagdbbikhegoaaaDoor
