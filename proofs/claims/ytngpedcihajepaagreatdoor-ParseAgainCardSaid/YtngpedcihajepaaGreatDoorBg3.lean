/-
  Merged out of the texts Op9.
-/
import Derived.Lib.MinMax
import Derived.OwnWalk
import Derived.WalkMore
import Derived.Deep.LoopGhost
import Derived.Deep.RegionHeld3
import Derived.Test.YtngpedcihajepaaGreatDoorShelf
import Derived.Test.YtngpedcihajepaaGreatDoorProg
import Derived.WalkKit
import Derived.WalkSpells
import Derived.WalkLawsBesides
import Derived.Lib.Hide
import Derived.Below
import Derived.Deep.QuietTactic
import Derived.BigQuiet
import Derived.Shelf.LaysM
import Derived.Shelf.Strconv.Itoa1
import Derived.Shelf.Strconv.Itoa2
import Derived.Lib.Walk
import Derived.Lib.ItoaMem
import Derived.BigCall
import Derived.BigGuard
import Derived.Defers
import Derived.Recover
import Derived.WalkSmall
import Derived.Maps.Own
import Derived.Maps.OwnOps
import Derived.Maps.Views
import Derived.Lib.Builder
import Derived.Lib.AppendStr
import Derived.Lib.UnsafeStr
import Derived.Laws.Externs
import Derived.Still
import Derived.ProofKit
import Derived.ChangeMaps5
import Derived.Lib.MakeNoZero
import Derived.Laws.IdiomCopy
import Derived.Laws.BitsLemmas
import Derived.Shelf.Strings.BuilderX
import Derived.Deep.AppendLies
import Derived.Test.YtngpedcihajepaaGreatDoorBa1
import Derived.Test.YtngpedcihajepaaGreatDoorBa2
import Derived.Test.YtngpedcihajepaaGreatDoorBa3
import Derived.Test.YtngpedcihajepaaGreatDoorBa4
import Derived.Test.YtngpedcihajepaaGreatDoorBa5
import Derived.Test.YtngpedcihajepaaGreatDoorBa6
import Derived.Test.YtngpedcihajepaaGreatDoorBa7
import Derived.Test.YtngpedcihajepaaGreatDoorBa8
import Derived.Test.YtngpedcihajepaaGreatDoorBa9
import Derived.Test.YtngpedcihajepaaGreatDoorBa10
import Derived.Test.YtngpedcihajepaaGreatDoorBa11
import Derived.Test.YtngpedcihajepaaGreatDoorBa12
import Derived.Test.YtngpedcihajepaaGreatDoorBa13
import Derived.Test.YtngpedcihajepaaGreatDoorBa14
import Derived.Test.YtngpedcihajepaaGreatDoorBa15
import Derived.Test.YtngpedcihajepaaGreatDoorBa16
import Derived.Test.YtngpedcihajepaaGreatDoorBa17
import Derived.Test.YtngpedcihajepaaGreatDoorBg1
import Derived.Test.YtngpedcihajepaaGreatDoorBg2
namespace Go.Proofs.YtngpedcihajepaaGreatDoor
open Go.RowKit
set_option linter.unusedVariables false
set_option linter.unusedSimpArgs false
set_option maxRecDepth 100000
set_option maxHeartbeats 4000000 in
theorem open9_any (s : ByteArray) (w : World) (hs : s.size ≤ 140737488351232) : Calls Tryz.prog 22 #[.string s] w fun e w' => e = .returned (.int .i64 (M.openI 0 0 (M.bs s))) ∧ w' = w := by
  have BG := Lib.hid (fun (k : Nat) (h : k < s.size) => M.bs_get s k h)
  have BL := Lib.hid (M.bs_len s)
  have hud : ∀ b : Bool, undef ≠ Value.bool b := fun b h => by cases h
  go_enter Tryz.func22, Tryz.ntmps22
  go_wp2_with fail
  go_loop [3, 4, 8] (fun tn tm ti => ∃ (i : Nat) (n m : Int), i ≤ s.size ∧ ti = .int .i64 i ∧ tn = .int .i64 n ∧ tm = .int .i64 m ∧ M.openI 0 0 (M.bs s) = M.openI n m ((M.bs s).drop i) ∧ -(i : Int) ≤ n ∧ n ≤ i ∧ 0 ≤ m ∧ m ≤ i) (fun _ _ ti => s.size - (intOf ti).toNat)
  case atStart => exact ⟨0, 0, 0, Nat.zero_le _, rfl, rfl, rfl, rfl, by omega, by omega, by omega, by omega⟩
  case round =>
    obtain ⟨i, n, m, hi, rfl, rfl, rfl, ho, hn1, hn2, hm1, hm2⟩ := hrel
    have HO := Lib.hid ho
    clear ho
    by_cases hlt : i < s.size
    · obtain ⟨c, ec⟩ : ∃ c, c = (s[i]'hlt).toNat := ⟨_, rfl⟩
      have hc : ((s[i]'hlt).toNat : Int) = (c : Int) := by rw [ec]
      have HD := Lib.hid (show M.openI 0 0 (M.bs s) = M.openI (M.stepI n c) (max m (M.stepI n c)) ((M.bs s).drop (i + 1)) by
        rw [HO.out, List.drop_eq_getElem_cons (by rw [BL.out]; exact hlt), M.openI]
        have e : (M.bs s)[i]'(by rw [BL.out]; exact hlt) = c := by
          rw [ec, BG.out i hlt, List.getD_eq_getElem?_getD, List.getElem?_eq_getElem (by rw [BL.out]; exact hlt)]; rfl
        rw [e])
      have hc256 : c < 256 := by rw [ec]; exact UInt8.toNat_lt _
      clear ec
      by_cases h40 : c = 40
      · subst h40
        have HST := Lib.hid (show M.stepI n 40 = n + 1 by simp [M.stepI, M.opnB, M.clsB])
        rw [HST.out] at HD
        go_wp2_with fail
        go_round
        case rel => exact ⟨i + 1, n + 1, max m (n + 1), by omega, by go_num, by go_num, by go_num, HD.out, by omega, by omega, by omega, by omega⟩
        case measure => simp [intOf]; omega
      by_cases h91 : c = 91
      · subst h91
        have HST := Lib.hid (show M.stepI n 91 = n + 1 by simp [M.stepI, M.opnB, M.clsB])
        rw [HST.out] at HD
        go_wp2_with fail
        go_round
        case rel => exact ⟨i + 1, n + 1, max m (n + 1), by omega, by go_num, by go_num, by go_num, HD.out, by omega, by omega, by omega, by omega⟩
        case measure => simp [intOf]; omega
      by_cases h123 : c = 123
      · subst h123
        have HST := Lib.hid (show M.stepI n 123 = n + 1 by simp [M.stepI, M.opnB, M.clsB])
        rw [HST.out] at HD
        go_wp2_with fail
        go_round
        case rel => exact ⟨i + 1, n + 1, max m (n + 1), by omega, by go_num, by go_num, by go_num, HD.out, by omega, by omega, by omega, by omega⟩
        case measure => simp [intOf]; omega
      by_cases h41 : c = 41
      · subst h41
        have HST := Lib.hid (show M.stepI n 41 = n - 1 by simp [M.stepI, M.opnB, M.clsB])
        rw [HST.out] at HD
        go_wp2_with fail
        go_round
        case rel => exact ⟨i + 1, n - 1, max m (n - 1), by omega, by go_num, by go_num, by go_num, HD.out, by omega, by omega, by omega, by omega⟩
        case measure => simp [intOf]; omega
      by_cases h93 : c = 93
      · subst h93
        have HST := Lib.hid (show M.stepI n 93 = n - 1 by simp [M.stepI, M.opnB, M.clsB])
        rw [HST.out] at HD
        go_wp2_with fail
        go_round
        case rel => exact ⟨i + 1, n - 1, max m (n - 1), by omega, by go_num, by go_num, by go_num, HD.out, by omega, by omega, by omega, by omega⟩
        case measure => simp [intOf]; omega
      by_cases h125 : c = 125
      · subst h125
        have HST := Lib.hid (show M.stepI n 125 = n - 1 by simp [M.stepI, M.opnB, M.clsB])
        rw [HST.out] at HD
        go_wp2_with fail
        go_round
        case rel => exact ⟨i + 1, n - 1, max m (n - 1), by omega, by go_num, by go_num, by go_num, HD.out, by omega, by omega, by omega, by omega⟩
        case measure => simp [intOf]; omega
      have q40 : ((c : Int) == 40) = false := by rw [beq_eq_false_iff_ne]; omega
      have q91 : ((c : Int) == 91) = false := by rw [beq_eq_false_iff_ne]; omega
      have q123 : ((c : Int) == 123) = false := by rw [beq_eq_false_iff_ne]; omega
      have q41 : ((c : Int) == 41) = false := by rw [beq_eq_false_iff_ne]; omega
      have q93 : ((c : Int) == 93) = false := by rw [beq_eq_false_iff_ne]; omega
      have q125 : ((c : Int) == 125) = false := by rw [beq_eq_false_iff_ne]; omega
      have HST := Lib.hid (show M.stepI n c = n by unfold M.stepI M.opnB M.clsB; rw [if_neg (by rw [decide_eq_true_eq]; omega), if_neg (by rw [decide_eq_true_eq]; omega)])
      rw [HST.out] at HD
      go_wp2_with fail
      go_round
      case rel => exact ⟨i + 1, n, max m (n), by omega, by go_num, by go_num, by go_num, HD.out, by omega, by omega, by omega, by omega⟩
      case measure => simp [intOf]; omega
    · obtain rfl : i = s.size := by omega
      have HE := Lib.hid (show M.openI 0 0 (M.bs s) = m by rw [HO.out, List.drop_of_length_le (by rw [BL.out]; omega)]; rfl)
      go_wp2_with fail
      go_ret
      exact ⟨by rw [HE.out]; rfl, rfl⟩
end Go.Proofs.YtngpedcihajepaaGreatDoor
