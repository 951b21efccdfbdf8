/-
  Merged out of the texts Ka Kb Kc Kf Kg.
-/
import Derived.WalkKit
import Derived.ProofKit
import Derived.ChangeMaps5
import Derived.Test.YtngpedcihajepaaGreatDoorProg
import Derived.WalkSpells
import Derived.WalkLawsBesides
import Derived.Lib.Hide
import Derived.Below
import Derived.Deep.QuietTactic
import Derived.BigQuiet
import Derived.Deep.RegionHeld3
import Derived.Test.YtngpedcihajepaaGreatDoorBa1
import Derived.Test.YtngpedcihajepaaGreatDoorBa2
import Derived.Test.YtngpedcihajepaaGreatDoorBa3
import Derived.Test.YtngpedcihajepaaGreatDoorBa4
import Derived.Test.YtngpedcihajepaaGreatDoorBa5
import Derived.Test.YtngpedcihajepaaGreatDoorBa6
import Derived.Test.YtngpedcihajepaaGreatDoorBa7
import Derived.Test.YtngpedcihajepaaGreatDoorBa8
import Derived.Test.YtngpedcihajepaaGreatDoorBa9
import Derived.Test.YtngpedcihajepaaGreatDoorBa10
import Derived.Test.YtngpedcihajepaaGreatDoorBa11
import Derived.Test.YtngpedcihajepaaGreatDoorBa12
import Derived.Test.YtngpedcihajepaaGreatDoorBa13
import Derived.Test.YtngpedcihajepaaGreatDoorBa14
import Derived.Test.YtngpedcihajepaaGreatDoorBa15
import Derived.Test.YtngpedcihajepaaGreatDoorBa16
import Derived.Test.YtngpedcihajepaaGreatDoorBa17
namespace Go.Proofs.YtngpedcihajepaaGreatDoor.M
set_option linter.unusedVariables false
theorem all_at {f : Nat → Bool} {l : List Nat} {i : Nat} (hi : i < l.length) (h : f (l.getD i 0) = false) : l.all f = false := by
  cases e : l.all f with
  | false => rfl
  | true => rw [all_getD.1 e i hi] at h; cases h
end Go.Proofs.YtngpedcihajepaaGreatDoor.M
namespace Go.Proofs.YtngpedcihajepaaGreatDoor
open Go.RowKit
set_option linter.unusedVariables false
set_option maxRecDepth 100000

set_option maxHeartbeats 1000000 in
theorem rletter_any (c : Nat) (w : World) : Calls Tryz.prog 50 #[.int .u8 c] w fun e w' => e = .returned (.bool (M.letterB c)) ∧ w = w' := by
  by_cases h1 : 97 ≤ c
  · by_cases h2 : c ≤ 122
    · have hl : M.letterB c = true := by unfold M.letterB; rw [decide_eq_true_eq]; omega
      have g1 : decide (97 ≤ (c : Int)) = true := by rw [decide_eq_true_eq]; omega
      have g2 : decide ((c : Int) ≤ 122) = true := by rw [decide_eq_true_eq]; omega
      rw [hl]
      clear hl h1 h2
      go_enter Tryz.func50, Tryz.ntmps50
      go_wp2
      go_ret
      exact ⟨rfl, rfl⟩
    · have hl : M.letterB c = false := by unfold M.letterB; rw [decide_eq_false_iff_not]; omega
      have g1 : decide (97 ≤ (c : Int)) = true := by rw [decide_eq_true_eq]; omega
      have g2 : decide ((c : Int) ≤ 122) = false := by rw [decide_eq_false_iff_not]; omega
      rw [hl]
      clear hl h1 h2
      go_enter Tryz.func50, Tryz.ntmps50
      go_wp2
      go_ret
      exact ⟨rfl, rfl⟩
  · have hl : M.letterB c = false := by unfold M.letterB; rw [decide_eq_false_iff_not]; omega
    have g1 : decide (97 ≤ (c : Int)) = false := by rw [decide_eq_false_iff_not]; omega
    rw [hl]
    clear hl h1
    go_enter Tryz.func50, Tryz.ntmps50
    go_wp2
    go_ret
    exact ⟨rfl, rfl⟩

set_option maxHeartbeats 1000000 in
theorem rdigit_any (c : Nat) (w : World) : Calls Tryz.prog 51 #[.int .u8 c] w fun e w' => e = .returned (.bool (M.digitB c)) ∧ w = w' := by
  by_cases h1 : 48 ≤ c
  · by_cases h2 : c ≤ 57
    · have hl : M.digitB c = true := by unfold M.digitB; rw [decide_eq_true_eq]; omega
      have g1 : decide (48 ≤ (c : Int)) = true := by rw [decide_eq_true_eq]; omega
      have g2 : decide ((c : Int) ≤ 57) = true := by rw [decide_eq_true_eq]; omega
      rw [hl]
      clear hl h1 h2
      go_enter Tryz.func51, Tryz.ntmps51
      go_wp2
      go_ret
      exact ⟨rfl, rfl⟩
    · have hl : M.digitB c = false := by unfold M.digitB; rw [decide_eq_false_iff_not]; omega
      have g1 : decide (48 ≤ (c : Int)) = true := by rw [decide_eq_true_eq]; omega
      have g2 : decide ((c : Int) ≤ 57) = false := by rw [decide_eq_false_iff_not]; omega
      rw [hl]
      clear hl h1 h2
      go_enter Tryz.func51, Tryz.ntmps51
      go_wp2
      go_ret
      exact ⟨rfl, rfl⟩
  · have hl : M.digitB c = false := by unfold M.digitB; rw [decide_eq_false_iff_not]; omega
    have g1 : decide (48 ≤ (c : Int)) = false := by rw [decide_eq_false_iff_not]; omega
    rw [hl]
    clear hl h1
    go_enter Tryz.func51, Tryz.ntmps51
    go_wp2
    go_ret
    exact ⟨rfl, rfl⟩

end Go.Proofs.YtngpedcihajepaaGreatDoor
namespace Go.Proofs.YtngpedcihajepaaGreatDoor
open Go.RowKit
set_option linter.unusedVariables false
set_option maxRecDepth 100000

set_option maxHeartbeats 2000000 in
theorem risName_any (s : ByteArray) (w : World) (hs : s.size ≤ 140737488351232) : Calls Tryz.prog 158 #[.string s] w fun e w' => e = .returned (.bool (M.isName (M.bs s))) ∧ w = w' := by
  have hud : ∀ b : Bool, undef ≠ Value.bool b := fun b h => by cases h
  obtain ⟨r, er⟩ : ∃ r, r = M.isName (M.bs s) := ⟨_, rfl⟩
  rw [← er]
  have hlen := M.bs_len s
  have LE := Lib.hid fun c w => rletter_any c w
  have DI := Lib.hid fun c w => rdigit_any c w
  by_cases h0 : s.size = 0
  · obtain rfl : r = false := by rw [er]; unfold M.isName; rw [Bool.and_eq_false_iff]; left; rw [decide_eq_false_iff_not]; omega
    have he : s.toList.isEmpty = true := by rw [M.empty_is]; simpa using h0
    clear er hlen h0
    go_enter Tryz.func158, Tryz.ntmps158
    go_wp2_with fail
    go_ret
    exact ⟨rfl, rfl⟩
  · have he : s.toList.isEmpty = false := by rw [M.empty_is]; simpa using h0
    by_cases h24 : 24 < s.size
    · obtain rfl : r = false := by rw [er]; unfold M.isName; rw [Bool.and_eq_false_iff]; left; rw [decide_eq_false_iff_not]; omega
      clear er hlen h0
      go_enter Tryz.func158, Tryz.ntmps158
      go_wp2_with fail
      go_ret
      exact ⟨rfl, rfl⟩
    · have hp : 0 < s.size := by omega
      have hg := M.bs_get s 0 hp
      obtain ⟨c0, ec0⟩ : ∃ c0, c0 = (M.bs s).getD 0 0 := ⟨_, rfl⟩
      rw [← ec0] at hg
      have L0 := Lib.hid (rletter_any c0 w)
      cases hl : M.letterB c0 with
      | false =>
        rw [hl] at L0
        obtain rfl : r = false := by rw [er]; unfold M.isName; rw [Bool.and_eq_false_iff]; left; rw [decide_eq_false_iff_not]; rw [← ec0, hl]; simp
        clear er hlen h0 ec0 hl
        have hgc : ((s[0]'hp).toNat : Int) = (c0 : Int) := by rw [hg]
        clear hg
        go_enter Tryz.func158, Tryz.ntmps158
        go_wp2_with fail
        (with_reducible refine (L0.out).mono ?_)
        rintro e w' ⟨rfl, rfl⟩
        go_wp2_with fail
        go_ret
        exact ⟨rfl, rfl⟩
      | true =>
        rw [hl] at L0
        have HR := Lib.hid (show M.isName (M.bs s) = (M.bs s).all M.nameB by unfold M.isName; rw [← ec0, hl, hlen]; simp; intros; omega)
        have HL := Lib.hid hlen
        have HE := Lib.hid er
        have hgc : ((s[0]'hp).toNat : Int) = (c0 : Int) := by rw [hg]
        have hd24 : decide (24 < (s.size : Int)) = false := by rw [decide_eq_false_iff_not]; omega
        clear er hlen h0 ec0 hl hg h24
        go_enter Tryz.func158, Tryz.ntmps158
        go_wp2_with fail
        (with_reducible refine (L0.out).mono ?_)
        rintro e w' ⟨rfl, rfl⟩
        clear hgc L0
        go_wp2_with fail
        go_loop [19] (fun ti => ∃ i : Nat, i ≤ s.size ∧ ti = .int .i64 i ∧ (∀ j, j < i → M.nameB ((M.bs s).getD j 0) = true)) (fun ti => s.size - (intOf ti).toNat)
        case atStart => exact ⟨0, by omega, rfl, fun j hj => absurd hj (by omega)⟩
        case round =>
          obtain ⟨i, hi, rfl, hall⟩ := hrel
          have HA := Lib.hid hall
          clear hall
          by_cases hlt : i < s.size
          · have hg := M.bs_get s i hlt
            obtain ⟨c, ec⟩ : ∃ c, c = (M.bs s).getD i 0 := ⟨_, rfl⟩
            rw [← ec] at hg
            have hgc : ((s[i]'hlt).toNat : Int) = (c : Int) := by rw [hg]
            have EC := Lib.hid ec
            have L1 := Lib.hid (rletter_any c w)
            have D1 := Lib.hid (rdigit_any c w)
            clear hg ec
            cases hl : M.letterB c with
            | true =>
              rw [hl] at L1
              have HN := Lib.hid (show M.nameB c = true by unfold M.nameB; rw [hl]; rfl)
              clear hl
              go_wp2_with fail
              (with_reducible refine (L1.out).mono ?_)
              rintro e w' ⟨rfl, rfl⟩
              go_wp2_with fail
              go_round
              case rel => exact ⟨i + 1, by omega, by go_num, fun j hj => by
                rcases (show j < i ∨ j = i by omega) with h | rfl
                · exact HA.out j h
                · rw [← EC.out]; exact HN.out⟩
              case measure => simp [intOf]; omega
            | false =>
              rw [hl] at L1
              cases hd : M.digitB c with
              | true =>
                rw [hd] at D1
                have HN := Lib.hid (show M.nameB c = true by unfold M.nameB; rw [hl, hd]; rfl)
                clear hl hd
                go_wp2_with fail
                (with_reducible refine (L1.out).mono ?_)
                rintro e w' ⟨rfl, rfl⟩
                go_wp2_with fail
                (with_reducible refine (D1.out).mono ?_)
                rintro e w' ⟨rfl, rfl⟩
                go_wp2_with fail
                go_round
                case rel => exact ⟨i + 1, by omega, by go_num, fun j hj => by
                  rcases (show j < i ∨ j = i by omega) with h | rfl
                  · exact HA.out j h
                  · rw [← EC.out]; exact HN.out⟩
                case measure => simp [intOf]; omega
              | false =>
                rw [hd] at D1
                by_cases h95 : c = 95
                · have HN := Lib.hid (show M.nameB c = true by rw [h95]; decide)
                  have hb : ((c : Int) != 95) = false := by simp [h95]
                  clear hl hd h95
                  go_wp2_with fail
                  (with_reducible refine (L1.out).mono ?_)
                  rintro e w' ⟨rfl, rfl⟩
                  go_wp2_with fail
                  (with_reducible refine (D1.out).mono ?_)
                  rintro e w' ⟨rfl, rfl⟩
                  go_wp2_with fail
                  go_round
                  case rel => exact ⟨i + 1, by omega, by go_num, fun j hj => by
                    rcases (show j < i ∨ j = i by omega) with h | rfl
                    · exact HA.out j h
                    · rw [← EC.out]; exact HN.out⟩
                  case measure => simp [intOf]; omega
                · have hb : ((c : Int) != 95) = true := by rw [bne_iff_ne]; omega
                  obtain rfl : r = false := by rw [HE.out, HR.out]; exact M.all_at (i := i) (by rw [HL.out]; exact hlt) (by rw [← EC.out]; unfold M.nameB; rw [hl, hd]; simpa using h95)
                  clear hl hd h95
                  go_wp2_with fail
                  (with_reducible refine (L1.out).mono ?_)
                  rintro e w' ⟨rfl, rfl⟩
                  go_wp2_with fail
                  (with_reducible refine (D1.out).mono ?_)
                  rintro e w' ⟨rfl, rfl⟩
                  go_wp2_with fail
                  go_ret
                  exact ⟨rfl, rfl⟩
          · obtain rfl : i = s.size := by omega
            obtain rfl : r = true := by rw [HE.out, HR.out]; exact M.all_getD.2 fun j hj => HA.out j (by rw [HL.out] at hj; exact hj)
            go_wp2_with fail
            go_ret
            exact ⟨rfl, rfl⟩
end Go.Proofs.YtngpedcihajepaaGreatDoor
namespace Go.Proofs.YtngpedcihajepaaGreatDoor
open Go.RowKit
set_option linter.unusedVariables false
set_option maxRecDepth 100000

set_option maxHeartbeats 2000000 in
theorem among_any (v : Value) (L : List ByteArray) (s : ByteArray) (w : World) (hv : StrS w v L) : Calls Tryz.prog 154 #[v, .string s] w fun e w' => e = .returned (.bool (decide (M.bs s ∈ L.map M.bs))) ∧ w = w' := by
  have hud : ∀ b : Bool, undef ≠ Value.bool b := fun b h => by cases h
  obtain ⟨hl, A, cap, rfl, hc⟩ := hv
  have HC := Lib.hid hc
  clear hc
  obtain ⟨r, er⟩ : ∃ r, r = decide (M.bs s ∈ L.map M.bs) := ⟨_, rfl⟩
  rw [← er]
  have HR := Lib.hid er
  clear er
  obtain ⟨n, en⟩ : ∃ n, n = L.length := ⟨_, rfl⟩
  rw [← en] at HC hl ⊢
  have HN := Lib.hid en
  clear en
  go_enter Tryz.func154, Tryz.ntmps154
  go_wp2_with fail
  go_loop [9] (fun ti => ∃ i : Nat, i ≤ n ∧ ti = .int .i64 i ∧ (∀ j, j < i → L.getD j ByteArray.empty ≠ s)) (fun ti => n - (intOf ti).toNat)
  case atStart => exact ⟨0, by omega, rfl, fun j hj => absurd hj (by omega)⟩
  case round =>
    obtain ⟨i, hi, rfl, hall⟩ := hrel
    have HA := Lib.hid hall
    clear hall
    by_cases hlt : i < n
    · obtain ⟨b, off, rfl, hcell⟩ := HC.out (by omega)
      have hx := hcell i hlt
      obtain ⟨x, ex⟩ : ∃ x, x = L.getD i ByteArray.empty := ⟨_, rfl⟩
      rw [← ex] at hx
      have EX := Lib.hid ex
      clear hcell ex
      by_cases hxs : x = s
      · have HX := Lib.hid hxs
        obtain rfl : r = true := by
          rw [HR.out, decide_eq_true_eq, ← hxs, EX.out]
          refine List.mem_map_of_mem ?_
          have hi' : i < L.length := by rw [← HN.out]; exact hlt
          rw [List.getD_eq_getElem?_getD, List.getElem?_eq_getElem hi']
          exact List.getElem_mem hi'
        go_wp2_with fail
        go_ret
        exact ⟨rfl, rfl⟩
      · have HX := Lib.hid hxs
        have hq := M.str_ne hxs
        clear hxs
        go_wp2_with fail
        go_round
        case rel => exact ⟨i + 1, by omega, by go_num, fun j hj => by
          rcases (show j < i ∨ j = i by omega) with h | rfl
          · exact HA.out j h
          · rw [← EX.out]; exact HX.out⟩
        case measure => simp [intOf]; omega
    · obtain rfl : i = n := by omega
      obtain rfl : r = false := by
        rw [HR.out, decide_eq_false_iff_not]
        intro h
        obtain ⟨x, hx, hb⟩ := List.mem_map.1 h
        obtain ⟨j, hj, rfl⟩ := List.getElem_of_mem hx
        refine HA.out j (by rw [HN.out]; exact hj) ?_
        rw [List.getD_eq_getElem?_getD, List.getElem?_eq_getElem hj]
        exact M.bs_inj hb
      go_wp2_with fail
      go_ret
      exact ⟨rfl, rfl⟩

theorem strS_new (w : World) (L : List ByteArray) (t : TypeId) (h : L.length ≤ 1000000) : StrS (w.alloc (.cells (L.map Value.string).toArray t)) (.slice (some ⟨w.heap.size, 0, none⟩) L.length L.length) L :=
  ⟨h, _, _, rfl, fun _ => ⟨_, _, rfl, fun i hi => by simp [hi, List.getD_eq_getElem?_getD]⟩⟩
set_option maxHeartbeats 2000000 in
theorem reserved_any (w : World) : Calls Tryz.prog 155 #[] w fun e w' => ∃ v, e = .returned v ∧ StrS w' v words8 ∧ Below w.heap.size w w' := by
  have hud : ∀ b : Bool, undef ≠ Value.bool b := fun b h => by cases h
  go_enter Tryz.func155, Tryz.ntmps155
  go_wp2_with fail
  go_ret
  exact ⟨_, rfl, strS_new w words8 _ (by decide), (Below.refl _ _).alloc (Nat.le_refl _) _⟩
set_option maxHeartbeats 2000000 in
theorem risReserved_any (s : ByteArray) (w : World) : Calls Tryz.prog 119 #[.string s] w fun e w' => e = .returned (.bool (M.wordB (M.bs s))) ∧ Below w.heap.size w w' := by
  have hud : ∀ b : Bool, undef ≠ Value.bool b := fun b h => by cases h
  have RE := Lib.hid fun w => reserved_any w
  have AM := Lib.hid fun w v (h : StrS w v words8) => (show Calls Tryz.prog 154 #[v, .string s] w fun e w' => e = .returned (.bool (M.wordB (M.bs s))) ∧ w = w' from among_any v words8 s w h)
  obtain ⟨r, er⟩ : ∃ r, r = M.wordB (M.bs s) := ⟨_, rfl⟩
  rw [← er] at AM ⊢
  clear er
  go_enter Tryz.func119, Tryz.ntmps119
  go_wp2_with fail
  (with_reducible refine (RE.out _).mono ?_)
  rintro e w1 ⟨v1, rfl, h1, hb⟩
  have HB := Lib.hid hb
  have H1 := Lib.hid h1
  clear hb h1
  go_wp2_with fail
  (with_reducible refine (AM.out _ _ H1.out).mono ?_)
  rintro e w' ⟨rfl, rfl⟩
  go_wp2_with fail
  go_ret
  exact ⟨rfl, HB.out⟩
end Go.Proofs.YtngpedcihajepaaGreatDoor
namespace Go.Proofs.YtngpedcihajepaaGreatDoor
open Go.RowKit
set_option linter.unusedVariables false
set_option maxRecDepth 100000
theorem bnext8 {W w1 w2 : World} (h1 : Below W.heap.size W w1) (h2 : Below w1.heap.size w1 w2) : Below W.heap.size W w2 := h1.trans (h2.mono h1.size)
end Go.Proofs.YtngpedcihajepaaGreatDoor
