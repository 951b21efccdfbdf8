/-
  The walk of TokenWrites: Write and Check against the reference's.
-/
import Derived.Test.YtagdbbikhegoaaaL8
import Derived.Test.YtagdbbikhegoaaaWc
namespace Go.Proofs.Ytagdbbikhegoaaa
open Go.RowKit
set_option linter.unusedVariables false
set_option maxRecDepth 100000
namespace tokenWritesW
set_option maxHeartbeats 4000000 in
theorem walk (W : World) (v : Value) (ts : List T8) (hv : TokS W v ts) (hs : TokIn ts) :
    Calls Try.prog 4 #[v] W fun e w' => e = .returned (.bool true) ∧ Below W.heap.size W w' := by
  have hud : ∀ b : Bool, undef ≠ Value.bool b := fun b h => by cases h
  have R1 := Lib.hid fun w (h : Below W.heap.size W w) => write_any v ts w (hv.below h) (fun t ht => (hs t ht).1)
  have R2 := Lib.hid fun w (h : Below W.heap.size W w) => rwrite_any v ts w (hv.below h) hs
  have AL := Lib.hid fun w => alive_any w
  have HSZ := Lib.hid hs
  obtain ⟨hl0, A, cap, rfl, hcap, hcells⟩ := hv
  have HC := Lib.hid hcells
  have B0 := Lib.hid (Below.refl W.heap.size W)
  clear hs hcells
  go_enter Try.func4, Try.ntmps4
  go_wp2_with fail
  (with_reducible refine (R1.out _ B0.out).mono ?_)
  rintro e w1 ⟨T, rfl, hT, hb⟩
  have HT := Lib.hid hT
  have B1 := Lib.hid hb
  clear hT hb
  go_wp2_with fail
  (with_reducible refine (R2.out _ B1.out).mono ?_)
  rintro e w2 ⟨T', rfl, hT, hb⟩
  obtain rfl : T' = T := M.bs_inj (hT.trans HT.out.symm)
  have B2 := Lib.hid (bnext8 B1.out hb)
  obtain ⟨E, eE⟩ : ∃ E, E = writeE ts := ⟨_, rfl⟩
  rw [← eE]
  have e1 : (E == E) = true := by simp
  have e2 : (T'.toList == T'.toList) = true := by simp
  clear hT hb HT eE
  go_wp2_with fail
  go_loopw [21] (fun ti wr => ∃ k : Nat, k ≤ ts.length ∧ ti = .int .i64 k ∧ Below W.heap.size W wr) (fun ti _ => ts.length - (intOf ti).toNat)
  case atStart => exact ⟨0, Nat.zero_le _, rfl, B2.out⟩
  case round =>
    obtain ⟨k, hk, rfl, hB⟩ := hrel
    have HB := Lib.hid hB
    clear hB
    by_cases hlt : k < ts.length
    · obtain ⟨b, off, rfl, hbl, hcell⟩ := HC.out (by omega)
      obtain ⟨x0, x1, x2⟩ := hcell k hlt
      have p0 := (HB.out.cell (p := ⟨b, off + k * 3, none⟩) hbl).trans x0
      have p1 := (HB.out.cell (p := ⟨b, off + k * 3 + 1, none⟩) hbl).trans x1
      have p2 := (HB.out.cell (p := ⟨b, off + k * 3 + 2, none⟩) hbl).trans x2
      obtain ⟨hsz, hr1, hr2, hr3, hr4⟩ := HSZ.out (ts.getD k T8.no) (by rw [List.getD_eq_getElem?_getD, List.getElem?_eq_getElem hlt]; exact List.getElem_mem hlt)
      obtain ⟨K, eK⟩ : ∃ K, K = (ts.getD k T8.no).kind := ⟨_, rfl⟩
      obtain ⟨T, eT⟩ : ∃ T, T = (ts.getD k T8.no).text := ⟨_, rfl⟩
      obtain ⟨O, eO⟩ : ∃ O, O = (ts.getD k T8.no).off := ⟨_, rfl⟩
      rw [← eK] at p0 hr1 hr2
      rw [← eT] at p1 hsz
      rw [← eO] at p2 hr3 hr4
      have C1 := Lib.hid fun w => checkT_any K T O w hsz
      have C2 := Lib.hid fun w => rcheckT_any K T O w hsz hr1 hr2 hr3 hr4
      obtain ⟨F, eF⟩ : ∃ F, F = M.tokE K (M.bs T) O := ⟨_, rfl⟩
      rw [← eF] at C1 C2
      have HBX := Lib.hid (HB.out.alloc HB.out.size (.cells #[.int .i64 K, .string T, .int .i64 O] 32))
      have g1 : (F == F) = true := by simp
      have g2 : (F != F) = false := by simp
      obtain ⟨WX, eWX⟩ : ∃ WX, WX = wr.alloc (.cells #[.int .i64 K, .string T, .int .i64 O] 32) := ⟨_, rfl⟩
      have s0 : WX.cell? ⟨wr.heap.size, 0, none⟩ = some (.int .i64 K) := by rw [eWX]; simp
      have s1 : WX.cell? ⟨wr.heap.size, 1, none⟩ = some (.string T) := by rw [eWX]; simp
      have s2 : WX.cell? ⟨wr.heap.size, 2, none⟩ = some (.int .i64 O) := by rw [eWX]; simp
      have hsx : wr.heap.size < WX.heap.size := by rw [eWX]; simp
      rw [← eWX] at HBX
      clear hcell x0 x1 x2 eK eT eO hsz eF hr1 hr2 hr3 hr4
      go_wp2_with fail
      rw [← eWX]
      clear eWX
      go_region_held3 (fun w' => w'.cell? ⟨wr.heap.size, 0, none⟩ = some (.int .i64 K) ∧ w'.cell? ⟨wr.heap.size, 1, none⟩ = some (.string T) ∧ w'.cell? ⟨wr.heap.size, 2, none⟩ = some (.int .i64 O))
        (first | exact ⟨((Below.refl _ _).drew.cell (p := ⟨wr.heap.size, 0, none⟩) hsx).trans s0, ((Below.refl _ _).drew.cell (p := ⟨wr.heap.size, 1, none⟩) hsx).trans s1, ((Below.refl _ _).drew.cell (p := ⟨wr.heap.size, 2, none⟩) hsx).trans s2⟩ | exact ⟨(b4.cell (p := ⟨wr.heap.size, 0, none⟩) hsx).trans s0, (b4.cell (p := ⟨wr.heap.size, 1, none⟩) hsx).trans s1, (b4.cell (p := ⟨wr.heap.size, 2, none⟩) hsx).trans s2⟩ | exact ⟨(b3.cell (p := ⟨wr.heap.size, 0, none⟩) hsx).trans s0, (b3.cell (p := ⟨wr.heap.size, 1, none⟩) hsx).trans s1, (b3.cell (p := ⟨wr.heap.size, 2, none⟩) hsx).trans s2⟩ | go_keep)
        (first
          | (go_at_call 14; (with_reducible refine (C1.out _).mono ?_); rintro e w3 ⟨rfl, hb3⟩; have b3 := bnext8 (W := WX) (Below.refl _ _).drew hb3)
          | (go_at_call 15; (with_reducible refine (C2.out _).mono ?_); rintro e w4 ⟨rfl, hb4⟩; have b4 := bnext8 b3 hb4))
      have HB5 := Lib.hid (HBX.out.trans (b4.mono HBX.out.size))
      clear b3 b4 s0 s1 s2 hsx
      go_wp2_with fail
      refine ⟨⟨k + 1, by omega, by go_num, HB5.out⟩, ?_⟩
      simp [intOf]; omega
    · obtain rfl : k = ts.length := by omega
      go_wp2_with fail
      (with_reducible refine (AL.out _).mono ?_)
      rintro e w4 ⟨rfl, hb⟩
      have B4 := Lib.hid (bnext8 HB.out hb)
      clear hb
      go_wp2_with fail
      go_ret
      exact ⟨rfl, B4.out⟩
end tokenWritesW
end Go.Proofs.Ytagdbbikhegoaaa
