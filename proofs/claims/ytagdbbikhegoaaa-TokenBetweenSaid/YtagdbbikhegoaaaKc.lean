/-
  Tokens: the reference's names.
-/
import Derived.Test.YtagdbbikhegoaaaKb
namespace Go.Proofs.Ytagdbbikhegoaaa
open Go.RowKit
set_option linter.unusedVariables false
set_option maxRecDepth 100000

theorem M.empty_is (s : ByteArray) : s.toList.isEmpty = decide (s.size = 0) := by
  rw [ByteArray.toList_eq]
  obtain ⟨⟨l⟩⟩ := s
  cases l with
  | nil => rfl
  | cons c r => simp [ByteArray.size]

set_option maxHeartbeats 2000000 in
theorem risName_any (s : ByteArray) (w : World) (hs : s.size ≤ 140737488351232) : Calls Try.prog 17 #[.string s] w fun e w' => e = .returned (.bool (M.isName (M.bs s))) ∧ w = w' := by
  have hud : ∀ b : Bool, undef ≠ Value.bool b := fun b h => by cases h
  obtain ⟨r, er⟩ : ∃ r, r = M.isName (M.bs s) := ⟨_, rfl⟩
  rw [← er]
  have hlen := M.bs_len s
  have LE := Lib.hid fun c w => rletter_any c w
  have DI := Lib.hid fun c w => rdigit_any c w
  by_cases h0 : s.size = 0
  · obtain rfl : r = false := by rw [er]; unfold M.isName; rw [Bool.and_eq_false_iff]; left; rw [decide_eq_false_iff_not]; omega
    have he : s.toList.isEmpty = true := by rw [M.empty_is]; simpa using h0
    clear er hlen h0
    go_enter Try.func17, Try.ntmps17
    go_wp2_with fail
    go_ret
    exact ⟨rfl, rfl⟩
  · have he : s.toList.isEmpty = false := by rw [M.empty_is]; simpa using h0
    by_cases h24 : 24 < s.size
    · obtain rfl : r = false := by rw [er]; unfold M.isName; rw [Bool.and_eq_false_iff]; left; rw [decide_eq_false_iff_not]; omega
      clear er hlen h0
      go_enter Try.func17, Try.ntmps17
      go_wp2_with fail
      go_ret
      exact ⟨rfl, rfl⟩
    · have hp : 0 < s.size := by omega
      have hg := M.bs_get s 0 hp
      obtain ⟨c0, ec0⟩ : ∃ c0, c0 = (M.bs s).getD 0 0 := ⟨_, rfl⟩
      rw [← ec0] at hg
      have L0 := Lib.hid (rletter_any c0 w)
      cases hl : M.letterB c0 with
      | false =>
        rw [hl] at L0
        obtain rfl : r = false := by rw [er]; unfold M.isName; rw [Bool.and_eq_false_iff]; left; rw [decide_eq_false_iff_not]; rw [← ec0, hl]; simp
        clear er hlen h0 ec0 hl
        have hgc : ((s[0]'hp).toNat : Int) = (c0 : Int) := by rw [hg]
        clear hg
        go_enter Try.func17, Try.ntmps17
        go_wp2_with fail
        (with_reducible refine (L0.out).mono ?_)
        rintro e w' ⟨rfl, rfl⟩
        go_wp2_with fail
        go_ret
        exact ⟨rfl, rfl⟩
      | true =>
        rw [hl] at L0
        have HR := Lib.hid (show M.isName (M.bs s) = (M.bs s).all M.nameB by unfold M.isName; rw [← ec0, hl, hlen]; simp; intros; omega)
        have HL := Lib.hid hlen
        have HE := Lib.hid er
        have hgc : ((s[0]'hp).toNat : Int) = (c0 : Int) := by rw [hg]
        have hd24 : decide (24 < (s.size : Int)) = false := by rw [decide_eq_false_iff_not]; omega
        clear er hlen h0 ec0 hl hg h24
        go_enter Try.func17, Try.ntmps17
        go_wp2_with fail
        (with_reducible refine (L0.out).mono ?_)
        rintro e w' ⟨rfl, rfl⟩
        clear hgc L0
        go_wp2_with fail
        go_loop [19] (fun ti => ∃ i : Nat, i ≤ s.size ∧ ti = .int .i64 i ∧ (∀ j, j < i → M.nameB ((M.bs s).getD j 0) = true)) (fun ti => s.size - (intOf ti).toNat)
        case atStart => exact ⟨0, by omega, rfl, fun j hj => absurd hj (by omega)⟩
        case round =>
          obtain ⟨i, hi, rfl, hall⟩ := hrel
          have HA := Lib.hid hall
          clear hall
          by_cases hlt : i < s.size
          · have hg := M.bs_get s i hlt
            obtain ⟨c, ec⟩ : ∃ c, c = (M.bs s).getD i 0 := ⟨_, rfl⟩
            rw [← ec] at hg
            have hgc : ((s[i]'hlt).toNat : Int) = (c : Int) := by rw [hg]
            have EC := Lib.hid ec
            have L1 := Lib.hid (rletter_any c w)
            have D1 := Lib.hid (rdigit_any c w)
            clear hg ec
            cases hl : M.letterB c with
            | true =>
              rw [hl] at L1
              have HN := Lib.hid (show M.nameB c = true by unfold M.nameB; rw [hl]; rfl)
              clear hl
              go_wp2_with fail
              (with_reducible refine (L1.out).mono ?_)
              rintro e w' ⟨rfl, rfl⟩
              go_wp2_with fail
              go_round
              case rel => exact ⟨i + 1, by omega, by go_num, fun j hj => by
                rcases (show j < i ∨ j = i by omega) with h | rfl
                · exact HA.out j h
                · rw [← EC.out]; exact HN.out⟩
              case measure => simp [intOf]; omega
            | false =>
              rw [hl] at L1
              cases hd : M.digitB c with
              | true =>
                rw [hd] at D1
                have HN := Lib.hid (show M.nameB c = true by unfold M.nameB; rw [hl, hd]; rfl)
                clear hl hd
                go_wp2_with fail
                (with_reducible refine (L1.out).mono ?_)
                rintro e w' ⟨rfl, rfl⟩
                go_wp2_with fail
                (with_reducible refine (D1.out).mono ?_)
                rintro e w' ⟨rfl, rfl⟩
                go_wp2_with fail
                go_round
                case rel => exact ⟨i + 1, by omega, by go_num, fun j hj => by
                  rcases (show j < i ∨ j = i by omega) with h | rfl
                  · exact HA.out j h
                  · rw [← EC.out]; exact HN.out⟩
                case measure => simp [intOf]; omega
              | false =>
                rw [hd] at D1
                by_cases h95 : c = 95
                · have HN := Lib.hid (show M.nameB c = true by rw [h95]; decide)
                  have hb : ((c : Int) != 95) = false := by simp [h95]
                  clear hl hd h95
                  go_wp2_with fail
                  (with_reducible refine (L1.out).mono ?_)
                  rintro e w' ⟨rfl, rfl⟩
                  go_wp2_with fail
                  (with_reducible refine (D1.out).mono ?_)
                  rintro e w' ⟨rfl, rfl⟩
                  go_wp2_with fail
                  go_round
                  case rel => exact ⟨i + 1, by omega, by go_num, fun j hj => by
                    rcases (show j < i ∨ j = i by omega) with h | rfl
                    · exact HA.out j h
                    · rw [← EC.out]; exact HN.out⟩
                  case measure => simp [intOf]; omega
                · have hb : ((c : Int) != 95) = true := by rw [bne_iff_ne]; omega
                  obtain rfl : r = false := by rw [HE.out, HR.out]; exact M.all_at (i := i) (by rw [HL.out]; exact hlt) (by rw [← EC.out]; unfold M.nameB; rw [hl, hd]; simpa using h95)
                  clear hl hd h95
                  go_wp2_with fail
                  (with_reducible refine (L1.out).mono ?_)
                  rintro e w' ⟨rfl, rfl⟩
                  go_wp2_with fail
                  (with_reducible refine (D1.out).mono ?_)
                  rintro e w' ⟨rfl, rfl⟩
                  go_wp2_with fail
                  go_ret
                  exact ⟨rfl, rfl⟩
          · obtain rfl : i = s.size := by omega
            obtain rfl : r = true := by rw [HE.out, HR.out]; exact M.all_getD.2 fun j hj => HA.out j (by rw [HL.out] at hj; exact hj)
            go_wp2_with fail
            go_ret
            exact ⟨rfl, rfl⟩
end Go.Proofs.Ytagdbbikhegoaaa
