/-
  Tokens: the program's classes of bytes and its longest start of a kind.
-/
import Derived.Test.YtagdbbikhegoaaaDoorProg
import Derived.Test.YtagdbbikhegoaaaDoorKe
namespace Go.Proofs.YtagdbbikhegoaaaDoor
open Go.RowKit
set_option linter.unusedVariables false
set_option maxRecDepth 100000

set_option maxHeartbeats 1000000 in
theorem isLetter_any (c : Nat) (w : World) : Calls Tryd.prog 28 #[.int .u8 c] w fun e w' => e = .returned (.bool (M.letterB c)) ∧ w = w' := by
  by_cases h1 : 97 ≤ c
  · have g1 : decide (97 ≤ (c : Int)) = true := by rw [decide_eq_true_eq]; omega
    by_cases h2 : c ≤ 122
    · have hl : M.letterB c = true := by unfold M.letterB; rw [decide_eq_true_eq]; omega
      have g2 : decide ((c : Int) ≤ 122) = true := by rw [decide_eq_true_eq]; omega
      rw [hl]
      clear hl h1 h2
      go_enter Tryd.func28, Tryd.ntmps28
      go_wp2
      go_ret
      exact ⟨rfl, rfl⟩
    · have hl : M.letterB c = false := by unfold M.letterB; rw [decide_eq_false_iff_not]; omega
      have g2 : decide ((c : Int) ≤ 122) = false := by rw [decide_eq_false_iff_not]; omega
      rw [hl]
      clear hl h1 h2
      go_enter Tryd.func28, Tryd.ntmps28
      go_wp2
      go_ret
      exact ⟨rfl, rfl⟩
  · have hl : M.letterB c = false := by unfold M.letterB; rw [decide_eq_false_iff_not]; omega
    have g1 : decide (97 ≤ (c : Int)) = false := by rw [decide_eq_false_iff_not]; omega
    rw [hl]
    clear hl h1
    go_enter Tryd.func28, Tryd.ntmps28
    go_wp2
    go_ret
    exact ⟨rfl, rfl⟩

set_option maxHeartbeats 1000000 in
theorem isDigit_any (c : Nat) (w : World) : Calls Tryd.prog 11 #[.int .u8 c] w fun e w' => e = .returned (.bool (M.digitB c)) ∧ w = w' := by
  by_cases h1 : 48 ≤ c
  · have g1 : decide (48 ≤ (c : Int)) = true := by rw [decide_eq_true_eq]; omega
    by_cases h2 : c ≤ 57
    · have hl : M.digitB c = true := by unfold M.digitB; rw [decide_eq_true_eq]; omega
      have g2 : decide ((c : Int) ≤ 57) = true := by rw [decide_eq_true_eq]; omega
      rw [hl]
      clear hl h1 h2
      go_enter Tryd.func11, Tryd.ntmps11
      go_wp2
      go_ret
      exact ⟨rfl, rfl⟩
    · have hl : M.digitB c = false := by unfold M.digitB; rw [decide_eq_false_iff_not]; omega
      have g2 : decide ((c : Int) ≤ 57) = false := by rw [decide_eq_false_iff_not]; omega
      rw [hl]
      clear hl h1 h2
      go_enter Tryd.func11, Tryd.ntmps11
      go_wp2
      go_ret
      exact ⟨rfl, rfl⟩
  · have hl : M.digitB c = false := by unfold M.digitB; rw [decide_eq_false_iff_not]; omega
    have g1 : decide (48 ≤ (c : Int)) = false := by rw [decide_eq_false_iff_not]; omega
    rw [hl]
    clear hl h1
    go_enter Tryd.func11, Tryd.ntmps11
    go_wp2
    go_ret
    exact ⟨rfl, rfl⟩

set_option maxHeartbeats 1000000 in
theorem isBlank_any (c : Nat) (w : World) : Calls Tryd.prog 25 #[.int .u8 c] w fun e w' => e = .returned (.bool (M.blankB c)) ∧ w = w' := by
  obtain ⟨b, eb⟩ : ∃ b, b = M.blankB c := ⟨_, rfl⟩
  rw [← eb]
  by_cases h0 : c = 32
  case pos =>
    obtain rfl : b = true := by rw [eb, h0]; decide
    have g0 : ((c : Int) == 32) = true := by simp [h0]
    clear eb h0
    go_enter Tryd.func25, Tryd.ntmps25
    go_wp2
    go_ret
    exact ⟨rfl, rfl⟩
  have g0 : ((c : Int) == 32) = false := by rw [beq_eq_false_iff_ne]; omega
  by_cases h1 : c = 9
  case pos =>
    obtain rfl : b = true := by rw [eb, h1]; decide
    have g1 : ((c : Int) == 9) = true := by simp [h1]
    clear eb h1
    go_enter Tryd.func25, Tryd.ntmps25
    go_wp2
    go_ret
    exact ⟨rfl, rfl⟩
  have g1 : ((c : Int) == 9) = false := by rw [beq_eq_false_iff_ne]; omega
  by_cases h2 : c = 13
  case pos =>
    obtain rfl : b = true := by rw [eb, h2]; decide
    have g2 : ((c : Int) == 13) = true := by simp [h2]
    clear eb h2
    go_enter Tryd.func25, Tryd.ntmps25
    go_wp2
    go_ret
    exact ⟨rfl, rfl⟩
  have g2 : ((c : Int) == 13) = false := by rw [beq_eq_false_iff_ne]; omega
  by_cases h3 : c = 10
  case pos =>
    obtain rfl : b = true := by rw [eb, h3]; decide
    have g3 : ((c : Int) == 10) = true := by simp [h3]
    clear eb h3
    go_enter Tryd.func25, Tryd.ntmps25
    go_wp2
    go_ret
    exact ⟨rfl, rfl⟩
  have g3 : ((c : Int) == 10) = false := by rw [beq_eq_false_iff_ne]; omega
  obtain rfl : b = false := by rw [eb]; unfold M.blankB; rw [decide_eq_false_iff_not]; omega
  clear eb h0 h1 h2 h3
  go_enter Tryd.func25, Tryd.ntmps25
  go_wp2
  go_ret
  exact ⟨rfl, rfl⟩

set_option maxHeartbeats 1000000 in
theorem lineB_any (c : Nat) (w : World) : Calls Tryd.prog 27 #[.int .u8 c] w fun e w' => e = .returned (.bool (c != 10)) ∧ w = w' := by
  cases h : (c != 10) with
  | true =>
    have g : ((c : Int) != 10) = true := by rw [bne_iff_ne] at h ⊢; omega
    clear h
    go_enter Tryd.func27, Tryd.ntmps27
    go_wp2
    go_ret
    exact ⟨rfl, rfl⟩
  | false =>
    have g : ((c : Int) != 10) = false := by rw [bne_eq_false_iff_eq] at h ⊢; omega
    clear h
    go_enter Tryd.func27, Tryd.ntmps27
    go_wp2
    go_ret
    exact ⟨rfl, rfl⟩

set_option maxHeartbeats 1000000 in
theorem nameB_any (c : Nat) (w : World) : Calls Tryd.prog 29 #[.int .u8 c] w fun e w' => e = .returned (.bool (M.nameB c)) ∧ w = w' := by
  obtain ⟨b, eb⟩ : ∃ b, b = M.nameB c := ⟨_, rfl⟩
  rw [← eb]
  have L := Lib.hid (isLetter_any c w)
  have D := Lib.hid (isDigit_any c w)
  unfold M.nameB at eb
  cases hl : M.letterB c with
  | true =>
    rw [hl] at L eb
    obtain rfl : b = true := by rw [eb]; rfl
    clear hl eb
    go_enter Tryd.func29, Tryd.ntmps29
    go_wp2_with fail
    (with_reducible refine (L.out).mono ?_)
    rintro e w' ⟨rfl, rfl⟩
    go_wp2_with fail
    go_ret
    exact ⟨rfl, rfl⟩
  | false =>
    rw [hl] at L eb
    cases hd : M.digitB c with
    | true =>
      rw [hd] at D eb
      obtain rfl : b = true := by rw [eb]; rfl
      clear hl hd eb
      go_enter Tryd.func29, Tryd.ntmps29
      go_wp2_with fail
      (with_reducible refine (L.out).mono ?_)
      rintro e w' ⟨rfl, rfl⟩
      go_wp2_with fail
      (with_reducible refine (D.out).mono ?_)
      rintro e w' ⟨rfl, rfl⟩
      go_wp2_with fail
      go_ret
      exact ⟨rfl, rfl⟩
    | false =>
      rw [hd] at D eb
      by_cases h95 : c = 95
      · obtain rfl : b = true := by rw [eb, h95]; rfl
        have g : ((c : Int) == 95) = true := by simp [h95]
        clear hl hd eb h95
        go_enter Tryd.func29, Tryd.ntmps29
        go_wp2_with fail
        (with_reducible refine (L.out).mono ?_)
        rintro e w' ⟨rfl, rfl⟩
        go_wp2_with fail
        (with_reducible refine (D.out).mono ?_)
        rintro e w' ⟨rfl, rfl⟩
        go_wp2_with fail
        go_ret
        exact ⟨rfl, rfl⟩
      · obtain rfl : b = false := by rw [eb]; simpa using h95
        have g : ((c : Int) == 95) = false := by rw [beq_eq_false_iff_ne]; omega
        clear hl hd eb h95
        go_enter Tryd.func29, Tryd.ntmps29
        go_wp2_with fail
        (with_reducible refine (L.out).mono ?_)
        rintro e w' ⟨rfl, rfl⟩
        go_wp2_with fail
        (with_reducible refine (D.out).mono ?_)
        rintro e w' ⟨rfl, rfl⟩
        go_wp2_with fail
        go_ret
        exact ⟨rfl, rfl⟩

/-- what a class of bytes answers -/
def Class (g : Nat) (f : Nat → Bool) : Prop := (∀ (c : Nat) (w : World), Calls Tryd.prog g #[.int .u8 c] w fun e w' => e = .returned (.bool (f c)) ∧ w = w') ∧ ∀ args w, (callFunc g args).run Tryd.prog w = .ok (.enter g args) w
theorem class_blank : Class 25 M.blankB := ⟨isBlank_any, Tryd.call25⟩
theorem class_digit : Class 11 M.digitB := ⟨isDigit_any, Tryd.call11⟩
theorem class_line : Class 27 (fun c => c != 10) := ⟨lineB_any, Tryd.call27⟩
theorem class_name : Class 29 M.nameB := ⟨nameB_any, Tryd.call29⟩

theorem M.takeWhile_len {f : Nat → Bool} {l : List Nat} {n : Nat} (hn : n ≤ l.length) (hall : ∀ j, j < n → f (l.getD j 0) = true) (hend : n < l.length → f (l.getD n 0) = false) : l.takeWhile f = l.take n := by
  have e : l = l.take n ++ l.drop n := (List.take_append_drop n l).symm
  conv => lhs; rw [e]
  refine M.takeWhile_all ?_ ?_
  · rw [M.all_getD]
    intro i hi
    rw [List.length_take] at hi
    have : (l.take n).getD i 0 = l.getD i 0 := by
      rw [List.getD_eq_getElem?_getD, List.getD_eq_getElem?_getD, List.getElem?_take_of_lt (by omega)]
    rw [this]
    exact hall i (by omega)
  · intro c hc
    by_cases h : n < l.length
    · rw [M.drop_cons h] at hc
      cases hc
      exact hend h
    · rw [List.drop_eq_nil_of_le (by omega)] at hc
      cases hc

set_option maxHeartbeats 2000000 in
theorem prefix_any {g : Nat} {f : Nat → Bool} (hg : Class g f) (s : ByteArray) (w : World) (hs : s.size ≤ 140737488351232) : Calls Tryd.prog 10 #[.string s, .func (.func g) #[] #[]] w fun e w' => (∃ t : ByteArray, e = .returned (.string t) ∧ M.bs t = (M.bs s).takeWhile f) ∧ w = w' := by
  have LEN := Lib.hid (M.bs_len s)
  have eg := hg.2
  have CG := Lib.hid hg.1
  clear hg
  go_enter Tryd.func10, Tryd.ntmps10
  go_wp2_with fail
  go_loop [5] (fun ti => ∃ i : Nat, i ≤ s.size ∧ ti = .int .i64 i ∧ (∀ j, j < i → f ((M.bs s).getD j 0) = true)) (fun ti => s.size - (intOf ti).toNat)
  case atStart => exact ⟨0, Nat.zero_le _, rfl, fun j hj => absurd hj (by omega)⟩
  case round =>
    obtain ⟨i, hi, rfl, hall⟩ := hrel
    have HA := Lib.hid hall
    clear hall
    by_cases hlt : i < s.size
    · have hg := M.bs_get s i hlt
      obtain ⟨c, ec⟩ : ∃ c, c = (M.bs s).getD i 0 := ⟨_, rfl⟩
      rw [← ec] at hg
      have hgc : ((s[i]'hlt).toNat : Int) = (c : Int) := by rw [hg]
      have EC := Lib.hid ec
      have C1 := Lib.hid (CG.out c w)
      clear hg ec
      cases hb : f c with
      | true =>
        rw [hb] at C1
        have HB := Lib.hid hb
        clear hb
        go_wp2_with fail
        (with_reducible refine (C1.out).mono ?_)
        rintro e w' ⟨rfl, rfl⟩
        go_wp2_with fail
        go_round
        case rel => exact ⟨i + 1, by omega, by go_num, fun j hj => by
          rcases (show j < i ∨ j = i by omega) with h | rfl
          · exact HA.out j h
          · rw [← EC.out]; exact HB.out⟩
        case measure => simp [intOf]; omega
      | false =>
        rw [hb] at C1
        have HB := Lib.hid hb
        clear hb
        go_wp2_with fail
        (with_reducible refine (C1.out).mono ?_)
        rintro e w' ⟨rfl, rfl⟩
        clear hgc
        go_wp2_with fail
        go_ret
        refine ⟨⟨_, rfl, ?_⟩, rfl⟩
        rw [M.bs_extract _ _ _ (by omega), List.drop_zero, Nat.sub_zero]
        exact (M.takeWhile_len (by rw [LEN.out]; omega) HA.out (fun _ => by rw [← EC.out]; exact HB.out)).symm
    · obtain rfl : i = s.size := by omega
      go_wp2_with fail
      go_ret
      refine ⟨⟨_, rfl, ?_⟩, rfl⟩
      rw [M.takeWhile_len (l := M.bs s) (n := s.size) (by rw [LEN.out]; omega) HA.out (fun h => by rw [LEN.out] at h; omega), List.take_of_length_le (by rw [LEN.out]; omega)]
end Go.Proofs.YtagdbbikhegoaaaDoor
