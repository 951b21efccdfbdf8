/-
  Tokens: the reference's Same, without the offsets.
-/
import Derived.Test.YtagdbbikhegoaaaLex
import Derived.Test.YtagdbbikhegoaaaKw
namespace Go.Proofs.Ytagdbbikhegoaaa
open Go.RowKit
set_option linter.unusedVariables false
set_option maxRecDepth 100000

set_option maxHeartbeats 4000000 in
theorem rsameF_any (va vb : Value) (A B : List T8) (w : World) (ha : TokS w va A) (hb : TokS w vb B) (hlen : A.length = B.length) (hk : ∀ i, i < A.length → (A.getD i T8.no).kind = (B.getD i T8.no).kind ∧ (A.getD i T8.no).text = (B.getD i T8.no).text) : Calls Try.prog 10 #[va, vb, .bool false] w fun e w' => e = .returned (.bool true) ∧ Below w.heap.size w w' := by
  have hud : ∀ b : Bool, undef ≠ Value.bool b := fun b h => by cases h
  obtain ⟨hl1, Aa, ca, rfl, hca, ha⟩ := ha
  obtain ⟨-, Ab, cb, rfl, hcb, hb⟩ := hb
  rw [← hlen] at hb hcb ⊢
  obtain ⟨n, en⟩ : ∃ n, n = A.length := ⟨_, rfl⟩
  rw [← en] at ha hb hca hcb hl1 hk ⊢
  have HA := Lib.hid ha
  have HB := Lib.hid hb
  have HK := Lib.hid hk
  clear ha hb hk hlen en
  have hB0 := Below.refl w.heap.size w
  go_enter Try.func10, Try.ntmps10
  go_wp2_with fail
  go_loopw [15] (fun ti wr => ∃ i : Nat, i ≤ n ∧ ti = .int .i64 i ∧ Below w.heap.size w wr) (fun ti _ => n - (intOf ti).toNat)
  case atStart => exact ⟨0, by omega, rfl, hB0⟩
  case round =>
    obtain ⟨i, hi, rfl, hB⟩ := hrel
    have HBB := Lib.hid hB
    clear hB hB0
    by_cases hlt : i < n
    · obtain ⟨b, off, rfl, hbl, hcell⟩ := HA.out (by omega)
      obtain ⟨b2, off2, rfl, hbl2, hcell2⟩ := HB.out (by omega)
      obtain ⟨e1, e2⟩ := HK.out i hlt
      obtain ⟨x0, x1, x2⟩ := hcell i hlt
      obtain ⟨y0, y1, y2⟩ := hcell2 i hlt
      rw [← e1] at y0
      rw [← e2] at y1
      have p0 := (HBB.out.cell (p := ⟨b, off + i * 3, none⟩) hbl).trans x0
      have p1 := (HBB.out.cell (p := ⟨b, off + i * 3 + 1, none⟩) hbl).trans x1
      have p2 := (HBB.out.cell (p := ⟨b, off + i * 3 + 2, none⟩) hbl).trans x2
      have q0 := (HBB.out.cell (p := ⟨b2, off2 + i * 3, none⟩) hbl2).trans y0
      have q1 := (HBB.out.cell (p := ⟨b2, off2 + i * 3 + 1, none⟩) hbl2).trans y1
      have q2 := (HBB.out.cell (p := ⟨b2, off2 + i * 3 + 2, none⟩) hbl2).trans y2
      obtain ⟨K, eK⟩ : ∃ K, K = (A.getD i T8.no).kind := ⟨_, rfl⟩
      obtain ⟨T, eT⟩ : ∃ T, T = (A.getD i T8.no).text := ⟨_, rfl⟩
      rw [← eK] at p0 q0
      rw [← eT] at p1 q1
      have HBD := Lib.hid HBB.out.drew
      have hs1 := Nat.lt_of_lt_of_le hbl HBB.out.size
      have hs2 := Nat.lt_of_lt_of_le hbl2 HBB.out.size
      clear hcell hcell2 e1 e2 x0 x1 x2 y0 y1 y2 eK eT
      clear p2 q2
      go_wp2_with fail
      try dsimp only [List.append]
      refine wp_region_lex (S := fun w' => w'.cell? ⟨b, off + i * 3, none⟩ = some (.int .i64 K) ∧ w'.cell? ⟨b, off + i * 3 + 1, none⟩ = some (.string T) ∧ w'.cell? ⟨b2, off2 + i * 3, none⟩ = some (.int .i64 K) ∧ w'.cell? ⟨b2, off2 + i * 3 + 1, none⟩ = some (.string T)) (by kernel_rfl) (by kernel_rfl) (fun _ _ _ _ _ h => h) ?_ ?_
      · exact ⟨((Below.refl _ _).drew.cell (p := ⟨b, off + i * 3, none⟩) hs1).trans p0, ((Below.refl _ _).drew.cell (p := ⟨b, off + i * 3 + 1, none⟩) hs1).trans p1, ((Below.refl _ _).drew.cell (p := ⟨b2, off2 + i * 3, none⟩) hs2).trans q0, ((Below.refl _ _).drew.cell (p := ⟨b2, off2 + i * 3 + 1, none⟩) hs2).trans q1⟩
      repeat (first
        | (refine LexH.pass (by rfl) ?_; (try simp only [Act.put, List.setIfInBounds_toArray, List.set_cons_zero, List.set_cons_succ]))
        | (refine LexH.yield (v := ?_) (by rfl) ?_ ?_; rotate_left 1; (· intro w hSw; (try dsimp only at hSw); go_simp; try with_reducible rfl); (try simp only [Act.put, List.setIfInBounds_toArray, List.set_cons_zero, List.set_cons_succ])))
      refine LexH.nil ?_
      go_wp2_with fail
      refine ⟨⟨i + 1, by omega, by go_num, HBD.out⟩, ?_⟩
      simp [intOf]; omega
    · obtain rfl : i = n := by omega
      go_wp2_with fail
      go_ret
      exact ⟨rfl, HBB.out⟩
end Go.Proofs.Ytagdbbikhegoaaa
