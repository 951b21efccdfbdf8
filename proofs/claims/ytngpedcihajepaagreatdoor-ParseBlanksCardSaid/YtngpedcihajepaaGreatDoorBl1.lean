/-
  Merged out of the texts Ka Kb Kd Kf Kg Ke Kh Ki Kj Ky.
-/
import Derived.WalkKit
import Derived.ProofKit
import Derived.ChangeMaps5
import Derived.Test.YtngpedcihajepaaGreatDoorProg
import Derived.WalkSpells
import Derived.WalkLawsBesides
import Derived.Lib.Hide
import Derived.Below
import Derived.Deep.QuietTactic
import Derived.BigQuiet
import Derived.Deep.RegionHeld3
import Derived.OwnWalk
import Derived.Test.YtngpedcihajepaaGreatDoorShelf
import Derived.Test.YtngpedcihajepaaGreatDoorBa1
import Derived.Test.YtngpedcihajepaaGreatDoorBa2
import Derived.Test.YtngpedcihajepaaGreatDoorBa3
import Derived.Test.YtngpedcihajepaaGreatDoorBa4
import Derived.Test.YtngpedcihajepaaGreatDoorBa5
import Derived.Test.YtngpedcihajepaaGreatDoorBa6
import Derived.Test.YtngpedcihajepaaGreatDoorBa7
import Derived.Test.YtngpedcihajepaaGreatDoorBa8
import Derived.Test.YtngpedcihajepaaGreatDoorBa9
import Derived.Test.YtngpedcihajepaaGreatDoorBa10
import Derived.Test.YtngpedcihajepaaGreatDoorBa11
import Derived.Test.YtngpedcihajepaaGreatDoorBa12
import Derived.Test.YtngpedcihajepaaGreatDoorBa13
import Derived.Test.YtngpedcihajepaaGreatDoorBa14
import Derived.Test.YtngpedcihajepaaGreatDoorBa15
import Derived.Test.YtngpedcihajepaaGreatDoorBa16
import Derived.Test.YtngpedcihajepaaGreatDoorBa17
namespace Go.Proofs.YtngpedcihajepaaGreatDoor.M
set_option linter.unusedVariables false
theorem all_at {f : Nat → Bool} {l : List Nat} {i : Nat} (hi : i < l.length) (h : f (l.getD i 0) = false) : l.all f = false := by
  cases e : l.all f with
  | false => rfl
  | true => rw [all_getD.1 e i hi] at h; cases h
end Go.Proofs.YtngpedcihajepaaGreatDoor.M
namespace Go.Proofs.YtngpedcihajepaaGreatDoor
open Go.RowKit
set_option linter.unusedVariables false
set_option maxRecDepth 100000

set_option maxHeartbeats 1000000 in
theorem rletter_any (c : Nat) (w : World) : Calls Tryz.prog 50 #[.int .u8 c] w fun e w' => e = .returned (.bool (M.letterB c)) ∧ w = w' := by
  by_cases h1 : 97 ≤ c
  · by_cases h2 : c ≤ 122
    · have hl : M.letterB c = true := by unfold M.letterB; rw [decide_eq_true_eq]; omega
      have g1 : decide (97 ≤ (c : Int)) = true := by rw [decide_eq_true_eq]; omega
      have g2 : decide ((c : Int) ≤ 122) = true := by rw [decide_eq_true_eq]; omega
      rw [hl]
      clear hl h1 h2
      go_enter Tryz.func50, Tryz.ntmps50
      go_wp2
      go_ret
      exact ⟨rfl, rfl⟩
    · have hl : M.letterB c = false := by unfold M.letterB; rw [decide_eq_false_iff_not]; omega
      have g1 : decide (97 ≤ (c : Int)) = true := by rw [decide_eq_true_eq]; omega
      have g2 : decide ((c : Int) ≤ 122) = false := by rw [decide_eq_false_iff_not]; omega
      rw [hl]
      clear hl h1 h2
      go_enter Tryz.func50, Tryz.ntmps50
      go_wp2
      go_ret
      exact ⟨rfl, rfl⟩
  · have hl : M.letterB c = false := by unfold M.letterB; rw [decide_eq_false_iff_not]; omega
    have g1 : decide (97 ≤ (c : Int)) = false := by rw [decide_eq_false_iff_not]; omega
    rw [hl]
    clear hl h1
    go_enter Tryz.func50, Tryz.ntmps50
    go_wp2
    go_ret
    exact ⟨rfl, rfl⟩

set_option maxHeartbeats 1000000 in
theorem rdigit_any (c : Nat) (w : World) : Calls Tryz.prog 51 #[.int .u8 c] w fun e w' => e = .returned (.bool (M.digitB c)) ∧ w = w' := by
  by_cases h1 : 48 ≤ c
  · by_cases h2 : c ≤ 57
    · have hl : M.digitB c = true := by unfold M.digitB; rw [decide_eq_true_eq]; omega
      have g1 : decide (48 ≤ (c : Int)) = true := by rw [decide_eq_true_eq]; omega
      have g2 : decide ((c : Int) ≤ 57) = true := by rw [decide_eq_true_eq]; omega
      rw [hl]
      clear hl h1 h2
      go_enter Tryz.func51, Tryz.ntmps51
      go_wp2
      go_ret
      exact ⟨rfl, rfl⟩
    · have hl : M.digitB c = false := by unfold M.digitB; rw [decide_eq_false_iff_not]; omega
      have g1 : decide (48 ≤ (c : Int)) = true := by rw [decide_eq_true_eq]; omega
      have g2 : decide ((c : Int) ≤ 57) = false := by rw [decide_eq_false_iff_not]; omega
      rw [hl]
      clear hl h1 h2
      go_enter Tryz.func51, Tryz.ntmps51
      go_wp2
      go_ret
      exact ⟨rfl, rfl⟩
  · have hl : M.digitB c = false := by unfold M.digitB; rw [decide_eq_false_iff_not]; omega
    have g1 : decide (48 ≤ (c : Int)) = false := by rw [decide_eq_false_iff_not]; omega
    rw [hl]
    clear hl h1
    go_enter Tryz.func51, Tryz.ntmps51
    go_wp2
    go_ret
    exact ⟨rfl, rfl⟩

set_option maxHeartbeats 1000000 in
theorem rblank_any (c : Nat) (w : World) : Calls Tryz.prog 49 #[.int .u8 c] w fun e w' => e = .returned (.bool (M.blankB c)) ∧ w = w' := by
  obtain ⟨b, eb⟩ : ∃ b, b = M.blankB c := ⟨_, rfl⟩
  rw [← eb]
  by_cases h0 : c = 32
  case pos =>
    obtain rfl : b = true := by rw [eb, h0]; decide
    have g0 : ((c : Int) == 32) = true := by simp [h0]
    clear eb h0
    go_enter Tryz.func49, Tryz.ntmps49
    go_wp2
    go_ret
    exact ⟨rfl, rfl⟩
  have g0 : ((c : Int) == 32) = false := by rw [beq_eq_false_iff_ne]; omega
  by_cases h1 : c = 9
  case pos =>
    obtain rfl : b = true := by rw [eb, h1]; decide
    have g1 : ((c : Int) == 9) = true := by simp [h1]
    clear eb h1
    go_enter Tryz.func49, Tryz.ntmps49
    go_wp2
    go_ret
    exact ⟨rfl, rfl⟩
  have g1 : ((c : Int) == 9) = false := by rw [beq_eq_false_iff_ne]; omega
  by_cases h2 : c = 10
  case pos =>
    obtain rfl : b = true := by rw [eb, h2]; decide
    have g2 : ((c : Int) == 10) = true := by simp [h2]
    clear eb h2
    go_enter Tryz.func49, Tryz.ntmps49
    go_wp2
    go_ret
    exact ⟨rfl, rfl⟩
  have g2 : ((c : Int) == 10) = false := by rw [beq_eq_false_iff_ne]; omega
  by_cases h3 : c = 13
  case pos =>
    obtain rfl : b = true := by rw [eb, h3]; decide
    have g3 : ((c : Int) == 13) = true := by simp [h3]
    clear eb h3
    go_enter Tryz.func49, Tryz.ntmps49
    go_wp2
    go_ret
    exact ⟨rfl, rfl⟩
  have g3 : ((c : Int) == 13) = false := by rw [beq_eq_false_iff_ne]; omega
  obtain rfl : b = false := by rw [eb]; unfold M.blankB; rw [decide_eq_false_iff_not]; omega
  clear eb h0 h1 h2 h3
  go_enter Tryz.func49, Tryz.ntmps49
  go_wp2
  go_ret
  exact ⟨rfl, rfl⟩
end Go.Proofs.YtngpedcihajepaaGreatDoor
namespace Go.Proofs.YtngpedcihajepaaGreatDoor
open Go.RowKit
set_option linter.unusedVariables false
set_option maxRecDepth 100000
namespace M
theorem numE_at {l : List Nat} {i : Nat} (hi : i < l.length) (h : digitB (l.getD i 0) = false) : numE l = 4 := by unfold numE; rw [if_pos (.inr (all_at hi h))]
end M
set_option maxHeartbeats 2000000 in
theorem rnumber_any (s : ByteArray) (w : World) (hs : s.size ≤ 140737488351232) : Calls Tryz.prog 52 #[.string s] w fun e w' => e = .returned (.tuple #[.int .u64 (M.numV (M.bs s) : Nat), .int .i64 (M.numE (M.bs s))]) ∧ w = w' := by
  have hud : ∀ b : Bool, undef ≠ Value.bool b := fun b h => by cases h
  have hlen := M.bs_len s
  have LEN := Lib.hid hlen
  obtain ⟨E, eE⟩ : ∃ E, E = M.numE (M.bs s) := ⟨_, rfl⟩
  obtain ⟨V, eV⟩ : ∃ V, V = M.numV (M.bs s) := ⟨_, rfl⟩
  rw [← eE, ← eV]
  have HE := Lib.hid eE
  have HV := Lib.hid eV
  have NO := Lib.hid (show ∀ c : Int, c ≠ 0 → M.numE (M.bs s) = c → E = c ∧ V = 0 from fun c h0 h => ⟨by rw [eE, h], by rw [eV]; exact M.numV_no (by rw [h]; exact h0)⟩)
  clear eE eV
  by_cases h0 : s.size = 0
  · obtain ⟨rfl, rfl⟩ := NO.out 4 (by decide) (M.numE_empty (List.length_eq_zero_iff.1 (by omega)))
    have he : s.toList.isEmpty = true := by rw [M.empty_is]; simpa using h0
    clear hlen h0
    go_enter Tryz.func52, Tryz.ntmps52
    go_wp2_with fail
    go_ret2
    exact ⟨rfl, rfl⟩
  · have he : s.toList.isEmpty = false := by rw [M.empty_is]; simpa using h0
    have HN := Lib.hid (show M.bs s ≠ [] from fun e => h0 (by rw [← hlen, e]; rfl))
    clear hlen h0
    go_enter Tryz.func52, Tryz.ntmps52
    go_wp2_with fail
    go_loop [11] (fun ti => ∃ i : Nat, i ≤ s.size ∧ ti = .int .i64 i ∧ (∀ j, j < i → M.digitB ((M.bs s).getD j 0) = true)) (fun ti => s.size - (intOf ti).toNat)
    case atStart => exact ⟨0, by omega, rfl, fun j hj => absurd hj (by omega)⟩
    case round =>
      obtain ⟨i, hi, rfl, hall⟩ := hrel
      have HA := Lib.hid hall
      clear hall
      by_cases hlt : i < s.size
      · have hg := M.bs_get s i hlt
        obtain ⟨c, ec⟩ : ∃ c, c = (M.bs s).getD i 0 := ⟨_, rfl⟩
        rw [← ec] at hg
        have hgc : ((s[i]'hlt).toNat : Int) = (c : Int) := by rw [hg]
        have EC := Lib.hid ec
        have D1 := Lib.hid (rdigit_any c w)
        clear hg ec
        cases hd : M.digitB c with
        | true =>
          rw [hd] at D1
          have HD := Lib.hid hd
          clear hd
          go_wp2_with fail
          (with_reducible refine (D1.out).mono ?_)
          rintro e w' ⟨rfl, rfl⟩
          go_wp2_with fail
          go_round
          case rel => exact ⟨i + 1, by omega, by go_num, fun j hj => by
            rcases (show j < i ∨ j = i by omega) with h | rfl
            · exact HA.out j h
            · rw [← EC.out]; exact HD.out⟩
          case measure => simp [intOf]; omega
        | false =>
          rw [hd] at D1
          obtain ⟨rfl, rfl⟩ := NO.out 4 (by decide) (M.numE_at (i := i) (by rw [LEN.out]; exact hlt) (by rw [← EC.out]; exact hd))
          clear hd
          go_wp2_with fail
          (with_reducible refine (D1.out).mono ?_)
          rintro e w' ⟨rfl, rfl⟩
          go_wp2_with fail
          go_ret2
          exact ⟨rfl, rfl⟩
      · obtain rfl : i = s.size := by omega
        have HALL := Lib.hid (show ∀ j, j < (M.bs s).length → M.digitB ((M.bs s).getD j 0) = true from fun j hj => HA.out j (by rw [LEN.out] at hj; exact hj))
        clear HA
        by_cases h10 : 10 < s.size
        · obtain ⟨rfl, rfl⟩ := NO.out 3 (by decide) (M.numE_long HN.out HALL.out (by rw [LEN.out]; exact h10))
          go_wp2_with fail
          go_ret2
          exact ⟨rfl, rfl⟩
        · have h10' : s.size ≤ 10 := by omega
          have hd10 : decide ((s.size : Int) > 10) = false := by rw [decide_eq_false_iff_not]; omega
          go_wp2_with fail
          go_loop [5, 25] (fun tn ti => ∃ i : Nat, i ≤ s.size ∧ ti = .int .i64 i ∧ tn = .int .u64 (M.num (M.bs s) i : Nat)) (fun _ ti => s.size - (intOf ti).toNat)
          case atStart => exact ⟨0, by omega, rfl, rfl⟩
          case round =>
            obtain ⟨i, hi, rfl, rfl⟩ := hrel
            have hnl := M.num_small (l := M.bs s) (k := i) (by omega) (fun j hj => HALL.out j (by rw [LEN.out]; omega))
            by_cases hlt : i < s.size
            · have hg := M.bs_get s i hlt
              obtain ⟨c, ec⟩ : ∃ c, c = (M.bs s).getD i 0 := ⟨_, rfl⟩
              rw [← ec] at hg
              have hgc : ((s[i]'hlt).toNat : Int) = (c : Int) := by rw [hg]
              have hd := HALL.out i (by rw [LEN.out]; exact hlt)
              rw [← ec] at hd
              unfold M.digitB at hd
              rw [decide_eq_true_eq] at hd
              have hd1 := hd.1
              have hd2 := hd.2
              have HS := Lib.hid (show M.num (M.bs s) (i + 1) = 10 * M.num (M.bs s) i + (c - 48) by rw [ec]; rfl)
              obtain ⟨n, en⟩ : ∃ n, n = M.num (M.bs s) i := ⟨_, rfl⟩
              rw [← en] at hnl HS ⊢
              have hw1 : IntKind.u64.wrap (10 * (n : Int)) = 10 * (n : Int) := by rw [IntKind.wrap_u64]; omega
              have hw2 : IntKind.u8.wrap ((c : Int) - 48) = (c : Int) - 48 := by rw [IntKind.wrap_u8]; omega
              have hw3 : IntKind.u64.wrap (10 * (n : Int) + ((c : Int) - 48)) = 10 * (n : Int) + ((c : Int) - 48) := by rw [IntKind.wrap_u64]; omega
              have hw4 : IntKind.u64.wrap ((c : Int) - 48) = (c : Int) - 48 := by rw [IntKind.wrap_u64]; omega
              clear hg ec hd en
              go_wp2_with fail
              go_round
              case rel => exact ⟨i + 1, by omega, by go_num, by rw [HS.out]; go_num⟩
              case measure => simp [intOf]; omega
            · obtain rfl : i = s.size := by omega
              by_cases hb : 4294967295 < M.num (M.bs s) s.size
              · obtain ⟨rfl, rfl⟩ := NO.out 3 (by decide) (M.numE_big HN.out HALL.out (by rw [LEN.out]; exact h10) (by rw [LEN.out]; exact hb))
                go_wp2_with fail
                go_ret2
                exact ⟨rfl, rfl⟩
              · have hE0 := M.numE_ok HN.out HALL.out (by rw [LEN.out]; exact h10) (by rw [LEN.out]; exact hb)
                obtain rfl : E = 0 := by rw [HE.out, hE0]
                have HVV := Lib.hid (show V = M.num (M.bs s) s.size by rw [HV.out]; unfold M.numV; rw [if_pos hE0, LEN.out])
                obtain ⟨n, en⟩ : ∃ n, n = M.num (M.bs s) s.size := ⟨_, rfl⟩
                rw [← en] at hb HVV hnl ⊢
                obtain rfl := HVV.out
                clear hE0 en
                go_wp2_with fail
                go_ret2
                exact ⟨rfl, rfl⟩
end Go.Proofs.YtngpedcihajepaaGreatDoor
namespace Go.Proofs.YtngpedcihajepaaGreatDoor
open Go.RowKit
set_option linter.unusedVariables false
set_option maxRecDepth 100000

/-- the signs, in the reference's order -/
def signs8 : List ByteArray := [⟨#[61, 61]⟩, ⟨#[40]⟩, ⟨#[41]⟩, ⟨#[91]⟩, ⟨#[93]⟩, ⟨#[123]⟩, ⟨#[125]⟩, ⟨#[44]⟩, ⟨#[58]⟩, ⟨#[59]⟩, ⟨#[61]⟩, ⟨#[60]⟩, ⟨#[43]⟩, ⟨#[45]⟩, ⟨#[42]⟩, ⟨#[38]⟩, ⟨#[124]⟩, ⟨#[94]⟩, ⟨#[33]⟩]
theorem strS_new (w : World) (L : List ByteArray) (t : TypeId) (h : L.length ≤ 1000000) : StrS (w.alloc (.cells (L.map Value.string).toArray t)) (.slice (some ⟨w.heap.size, 0, none⟩) L.length L.length) L :=
  ⟨h, _, _, rfl, fun _ => ⟨_, _, rfl, fun i hi => by simp [hi, List.getD_eq_getElem?_getD]⟩⟩
set_option maxHeartbeats 2000000 in
theorem signs_any (w : World) : Calls Tryz.prog 53 #[] w fun e w' => ∃ v, e = .returned v ∧ StrS w' v signs8 ∧ Below w.heap.size w w' := by
  have hud : ∀ b : Bool, undef ≠ Value.bool b := fun b h => by cases h
  go_enter Tryz.func53, Tryz.ntmps53
  go_wp2_with fail
  go_ret
  exact ⟨_, rfl, strS_new w signs8 _ (by decide), (Below.refl _ _).alloc (Nat.le_refl _) _⟩
namespace M
theorem signB_is (l : List Nat) : decide (l ∈ signs8.map bs) = signB l := by
  have e : signs8.map bs = [61, 61] :: [[40], [41], [91], [93], [123], [125], [44], [58], [59], [61], [60], [43], [45], [42], [38], [124], [94], [33]] := by decide
  rw [e, Bool.eq_iff_iff, decide_eq_true_eq]
  unfold signB singles
  match l with
  | [] => simp
  | [c] => simp
  | [c, d] => simp
  | c :: d :: f :: r => simp
end M
end Go.Proofs.YtngpedcihajepaaGreatDoor
namespace Go.Proofs.YtngpedcihajepaaGreatDoor
open Go.RowKit
set_option linter.unusedVariables false
set_option maxRecDepth 100000
theorem bnext8 {W w1 w2 : World} (h1 : Below W.heap.size W w1) (h2 : Below w1.heap.size w1 w2) : Below W.heap.size W w2 := h1.trans (h2.mono h1.size)
end Go.Proofs.YtngpedcihajepaaGreatDoor
namespace Go.Proofs.YtngpedcihajepaaGreatDoor
open Go.RowKit
set_option linter.unusedVariables false
set_option maxRecDepth 100000
namespace M
theorem skipAt_ge (L : List Nat) (i : Nat) (h : i ≤ L.length) : i ≤ skipAt L i := by
  have := (skipL_suffix (L.drop i)).length_le
  rw [List.length_drop] at this
  unfold skipAt; omega
theorem skip_end (L : List Nat) : skipL (L.drop L.length) = L.drop L.length := by rw [List.drop_length, skipL]
theorem skip_blank {L : List Nat} {i : Nat} (h : i < L.length) (hb : blankB (L.getD i 0) = true) : skipL (L.drop (i + 1)) = skipL (L.drop i) := by
  rw [drop_cons h]
  conv => rhs; rw [skipL, if_pos hb]
theorem lineOf {L : List Nat} {i : Nat} (h : i < L.length) (hb : L.getD i 0 ≠ 10) : (L.drop (i + 1)).dropWhile (fun c => c != 10) = (L.drop i).dropWhile (fun c => c != 10) := by
  rw [drop_cons h, List.dropWhile_cons_of_pos (by simpa using hb)]
theorem lineEnd {L : List Nat} {i : Nat} (h : ¬ (i < L.length ∧ L.getD i 0 ≠ 10)) : (L.drop i).dropWhile (fun c => c != 10) = L.drop i := by
  by_cases hi : i < L.length
  · have h10 : L.getD i 0 = 10 := by
      by_cases e : L.getD i 0 = 10
      · exact e
      · exact absurd ⟨hi, e⟩ h
    rw [drop_cons hi, List.dropWhile_cons_of_neg (by rw [h10]; decide)]
  · rw [List.drop_eq_nil_of_le (by omega)]; rfl
theorem skip_comment {L : List Nat} {i j : Nat} (h : i < L.length) (h1 : i + 1 < L.length) (hb : L.getD i 0 = 47) (hc : L.getD (i + 1) 0 = 47) (hl : (L.drop j).dropWhile (fun c => c != 10) = (L.drop i).dropWhile (fun c => c != 10)) (he : (L.drop j).dropWhile (fun c => c != 10) = L.drop j) : skipL (L.drop j) = skipL (L.drop i) := by
  have hn : blankB (L.getD i 0) = false := by rw [hb]; decide
  conv => rhs; rw [drop_cons h, skipL, if_neg (by rw [hn]; decide), if_pos ⟨hb, by rw [drop_cons h1, hc]; rfl⟩, lineOf h (by omega), ← hl, he]
theorem skip_stop {L : List Nat} {i : Nat} (h : i < L.length) (hb : blankB (L.getD i 0) = false) (hc : ¬ (L.getD i 0 = 47 ∧ i + 1 < L.length ∧ L.getD (i + 1) 0 = 47)) : skipL (L.drop i) = L.drop i := by
  rw [drop_cons h, skipL, if_neg (by rw [hb]; decide), if_neg]
  rintro ⟨h1, h2⟩
  by_cases h3 : i + 1 < L.length
  · rw [drop_cons h3] at h2
    exact hc ⟨h1, h3, by simpa using h2⟩
  · rw [List.drop_eq_nil_of_le (by omega)] at h2
    cases h2
end M

set_option maxHeartbeats 2000000 in
theorem rskip_any (s : ByteArray) (a : Nat) (w : World) (hs : s.size ≤ 140737488351232) (ha : a ≤ s.size) : Calls Tryz.prog 36 #[.string s, .int .i64 a] w fun e w' => e = .returned (.int .i64 (M.skipAt (M.bs s) a : Nat)) ∧ w = w' := by
  have hud : ∀ b : Bool, undef ≠ Value.bool b := fun b h => by cases h
  have LEN := Lib.hid (M.bs_len s)
  obtain ⟨r, er⟩ : ∃ r, r = M.skipAt (M.bs s) a := ⟨_, rfl⟩
  rw [← er]
  have HR := Lib.hid er
  clear er
  go_enter Tryz.func36, Tryz.ntmps36
  go_wp2_with fail
  go_loop [1] (fun ti => ∃ i : Nat, i ≤ s.size ∧ ti = .int .i64 i ∧ M.skipL ((M.bs s).drop i) = M.skipL ((M.bs s).drop a)) (fun ti => s.size - (intOf ti).toNat)
  case atStart => exact ⟨a, ha, rfl, rfl⟩
  case round =>
    obtain ⟨i, hi, rfl, hsk⟩ := hrel
    have HS := Lib.hid hsk
    clear hsk
    by_cases hlt : i < s.size
    · have hg := M.bs_get s i hlt
      obtain ⟨c, ec⟩ : ∃ c, c = (M.bs s).getD i 0 := ⟨_, rfl⟩
      rw [← ec] at hg
      have hgc : ((s[i]'hlt).toNat : Int) = (c : Int) := by rw [hg]
      have EC := Lib.hid ec
      have B1 := Lib.hid (rblank_any c w)
      clear hg ec
      cases hb : M.blankB c with
      | true =>
        rw [hb] at B1
        have HB := Lib.hid hb
        clear hb
        go_wp2_with fail
        (with_reducible refine (B1.out).mono ?_)
        rintro e w' ⟨rfl, rfl⟩
        go_wp2_with fail
        go_round
        case rel => exact ⟨i + 1, by omega, by go_num, (M.skip_blank (by rw [LEN.out]; exact hlt) (by rw [← EC.out]; exact HB.out)).trans HS.out⟩
        case measure => simp [intOf]; omega
      | false =>
        rw [hb] at B1
        have HB := Lib.hid hb
        clear hb
        by_cases h47 : c = 47
        · have hq : ((c : Int) == 47) = true := by simp [h47]
          have H47 := Lib.hid h47
          clear h47
          by_cases hlt1 : i + 1 < s.size
          · have hg := M.bs_get s (i + 1) hlt1
            obtain ⟨d, ed⟩ : ∃ d, d = (M.bs s).getD (i + 1) 0 := ⟨_, rfl⟩
            rw [← ed] at hg
            have hgd : ((s[i + 1]'hlt1).toNat : Int) = (d : Int) := by rw [hg]
            have ED := Lib.hid ed
            clear hg ed
            by_cases d47 : d = 47
            · have hq2 : ((d : Int) == 47) = true := by simp [d47]
              have D47 := Lib.hid d47
              clear d47
              go_wp2_with fail
              (with_reducible refine (B1.out).mono ?_)
              rintro e w' ⟨rfl, rfl⟩
              go_wp2_with fail
              go_loop [1] (fun ti => ∃ j : Nat, i ≤ j ∧ j ≤ s.size ∧ ti = .int .i64 j ∧ ((M.bs s).drop j).dropWhile (fun c => c != 10) = ((M.bs s).drop i).dropWhile (fun c => c != 10)) (fun ti => s.size - (intOf ti).toNat)
              case atStart => exact ⟨i, Nat.le_refl _, by omega, rfl, rfl⟩
              case round =>
                obtain ⟨j, hij, hj, rfl, hln⟩ := hrel
                have HN := Lib.hid hln
                clear hln hgc hgd
                by_cases hjl : j < s.size
                · have hg := M.bs_get s j hjl
                  obtain ⟨f, ef⟩ : ∃ f, f = (M.bs s).getD j 0 := ⟨_, rfl⟩
                  rw [← ef] at hg
                  have hgf : ((s[j]'hjl).toNat : Int) = (f : Int) := by rw [hg]
                  have EF := Lib.hid ef
                  clear hg ef
                  by_cases h10 : f = 10
                  · have hq3 : ((f : Int) != 10) = false := by simp [h10]
                    have HJ := Lib.hid (show j ≠ i from fun e => by have h1 := EC.out; have h2 := EF.out; rw [e, ← h1, H47.out] at h2; omega)
                    have HEND := Lib.hid (M.lineEnd (L := M.bs s) (i := j) (by rw [← EF.out]; exact fun h => h.2 h10))
                    clear h10
                    go_wp2_with fail
                    go_round
                    case rel => exact ⟨j, by omega, by go_num, (M.skip_comment (by rw [LEN.out]; exact hlt) (by rw [LEN.out]; exact hlt1) (by rw [← EC.out]; exact H47.out) (by rw [← ED.out]; exact D47.out) HN.out HEND.out).trans HS.out⟩
                    case measure => have := HJ.out; simp [intOf]; omega
                  · have hq3 : ((f : Int) != 10) = true := by rw [bne_iff_ne]; omega
                    have H10 := Lib.hid h10
                    clear h10
                    go_wp2_with fail
                    go_round
                    case rel => exact ⟨j + 1, by omega, by omega, by go_num, (M.lineOf (by rw [LEN.out]; exact hjl) (by rw [← EF.out]; exact H10.out)).trans HN.out⟩
                    case measure => simp [intOf]; omega
                · have HEND := Lib.hid (M.lineEnd (L := M.bs s) (i := j) (by rw [LEN.out]; exact fun h => hjl h.1))
                  go_wp2_with fail
                  go_round
                  case rel => exact ⟨j, by omega, by go_num, (M.skip_comment (by rw [LEN.out]; exact hlt) (by rw [LEN.out]; exact hlt1) (by rw [← EC.out]; exact H47.out) (by rw [← ED.out]; exact D47.out) HN.out HEND.out).trans HS.out⟩
                  case measure => simp [intOf]; omega
            · have hq2 : ((d : Int) == 47) = false := by rw [beq_eq_false_iff_ne]; omega
              obtain rfl : r = i := by rw [HR.out]; exact M.skipAt_of (by rw [LEN.out]; omega) HS.out (M.skip_stop (by rw [LEN.out]; exact hlt) (by rw [← EC.out]; exact HB.out) (by rw [← ED.out]; exact fun h => d47 h.2.2))
              clear d47
              go_wp2_with fail
              (with_reducible refine (B1.out).mono ?_)
              rintro e w' ⟨rfl, rfl⟩
              go_wp2_with fail
              go_ret
              exact ⟨rfl, rfl⟩
          · obtain rfl : r = i := by rw [HR.out]; exact M.skipAt_of (by rw [LEN.out]; omega) HS.out (M.skip_stop (by rw [LEN.out]; exact hlt) (by rw [← EC.out]; exact HB.out) (by rw [LEN.out]; exact fun h => hlt1 h.2.1))
            have hlt2 : decide ((r : Int) + 1 < (s.size : Int)) = false := by rw [decide_eq_false_iff_not]; omega
            go_wp2_with fail
            (with_reducible refine (B1.out).mono ?_)
            rintro e w' ⟨rfl, rfl⟩
            go_wp2_with fail
            go_ret
            exact ⟨rfl, rfl⟩
        · have hq : ((c : Int) == 47) = false := by rw [beq_eq_false_iff_ne]; omega
          obtain rfl : r = i := by rw [HR.out]; exact M.skipAt_of (by rw [LEN.out]; omega) HS.out (M.skip_stop (by rw [LEN.out]; exact hlt) (by rw [← EC.out]; exact HB.out) (by rw [← EC.out]; exact fun h => h47 h.1))
          clear h47
          go_wp2_with fail
          (with_reducible refine (B1.out).mono ?_)
          rintro e w' ⟨rfl, rfl⟩
          go_wp2_with fail
          go_ret
          exact ⟨rfl, rfl⟩
    · obtain rfl : i = s.size := by omega
      obtain rfl : r = s.size := by rw [HR.out]; exact M.skipAt_of (by rw [LEN.out]; omega) HS.out (by have := M.skip_end (M.bs s); rwa [LEN.out] at this)
      go_wp2_with fail
      go_ret
      exact ⟨rfl, rfl⟩
end Go.Proofs.YtngpedcihajepaaGreatDoor
namespace Go.Proofs.YtngpedcihajepaaGreatDoor
open Go.RowKit
set_option linter.unusedVariables false
set_option maxRecDepth 100000
namespace M
theorem takeWhile_of {f : Nat → Bool} : ∀ {l : List Nat} {n : Nat}, (∀ i, i < n → f (l.getD i 0) = true) → n ≤ l.length → (n < l.length → f (l.getD n 0) = false) → l.takeWhile f = l.take n
  | [], n, _, h, _ => by simp at h; subst h; rfl
  | c :: r, 0, _, _, h => by
    have := h (by simp)
    simp at this
    simp [this]
  | c :: r, n + 1, h1, h2, h3 => by
    have h0 : f c = true := h1 0 (by omega)
    rw [List.takeWhile_cons_of_pos h0, List.take_succ_cons, takeWhile_of (fun i hi => h1 (i + 1) (by omega)) (by simpa using h2) (fun h => h3 (by simpa using h))]
theorem getD_drop (L : List Nat) (a i : Nat) : (L.drop a).getD i 0 = L.getD (a + i) 0 := by
  rw [List.getD_eq_getElem?_getD, List.getElem?_drop, ← List.getD_eq_getElem?_getD]
/-- the run of bytes from a to b is a token's text -/
theorem run_of {f : Nat → Bool} {s : ByteArray} {a b : Nat} (hab : a ≤ b) (hb : b ≤ s.size) (h : ∀ i, a ≤ i → i < b → f ((bs s).getD i 0) = true) (he : b < s.size → f ((bs s).getD b 0) = false) : ((bs s).drop a).takeWhile f = bs (s.extract a b) := by
  rw [bs_extract s a b hb]
  refine takeWhile_of (fun i hi => ?_) ?_ (fun hlt => ?_)
  · rw [getD_drop]; exact h _ (by omega) (by omega)
  · rw [List.length_drop, bs_len]; omega
  · rw [List.length_drop, bs_len] at hlt
    rw [getD_drop, show a + (b - a) = b by omega]
    exact he (by omega)
theorem bs_extract_len (s : ByteArray) {a b : Nat} (hab : a ≤ b) (hb : b ≤ s.size) : (bs (s.extract a b)).length = b - a := by
  rw [bs_extract s a b hb, List.length_take, List.length_drop, bs_len]; omega
end M
/-- what word answers -/
def WordEnd (s : ByteArray) (a : Nat) (w : World) (e : Ending) (w' : World) : Prop :=
  ∃ (T : ByteArray), e = .returned (.tuple #[.agg #[.int .i64 (M.wordL ((M.bs s).drop a)).2.1, .string T, .int .i64 (if (M.wordL ((M.bs s).drop a)).1 = 0 then (a : Int) else 0)], .int .i64 (M.wordL ((M.bs s).drop a)).1]) ∧ M.bs T = (M.wordL ((M.bs s).drop a)).2.2 ∧ Below w.heap.size w w'
theorem word_end {s T : ByteArray} {a : Nat} {w w' : World} {k A E : Int} {t : List Nat} (h : M.wordL ((M.bs s).drop a) = (E, k, t)) (ht : M.bs T = t) (hA : A = if E = 0 then (a : Int) else 0) (hb : Below w.heap.size w w') : WordEnd s a w (.returned (.tuple #[.agg #[.int .i64 k, .string T, .int .i64 A], .int .i64 E])) w' := by
  unfold WordEnd
  rw [h]
  subst hA
  exact ⟨T, rfl, ht, hb⟩
set_option maxHeartbeats 4000000 in
theorem word_name_any (s : ByteArray) (a : Nat) (w : World) (hs : s.size ≤ 140737488351232) (ha : a < s.size) (hl : M.letterB ((M.bs s).getD a 0) = true) : Calls Tryz.prog 37 #[.string s, .int .i64 a] w (WordEnd s a w) := by
  have hud : ∀ b : Bool, undef ≠ Value.bool b := fun b h => by cases h
  have LEN := Lib.hid (M.bs_len s)
  have WN := Lib.hid (M.word_name ha hl)
  have hg := M.bs_get s a ha
  obtain ⟨c, ec⟩ : ∃ c, c = (M.bs s).getD a 0 := ⟨_, rfl⟩
  rw [← ec] at hg hl
  have hgc : ((s[a]'ha).toNat : Int) = (c : Int) := by rw [hg]
  have EC := Lib.hid ec
  have L1 := Lib.hid fun w => rletter_any c w
  rw [hl] at L1
  clear hg ec hl
  go_enter Tryz.func37, Tryz.ntmps37
  go_wp2_with fail
  (with_reducible refine (L1.out _).mono ?_)
  rintro e w' ⟨rfl, rfl⟩
  go_wp2_with fail
  clear hgc L1
  -- LOOP
  go_loop [6] (fun tj => ∃ j : Nat, a ≤ j ∧ j ≤ s.size ∧ tj = .int .i64 j ∧ (∀ i, a ≤ i → i < j → M.nameB ((M.bs s).getD i 0) = true)) (fun tj => s.size - (intOf tj).toNat)
  case atStart => exact ⟨a, Nat.le_refl _, by omega, rfl, fun i h1 h2 => absurd h2 (by omega)⟩
  case round =>
    obtain ⟨j, haj, hj, rfl, hall⟩ := hrel
    have HA := Lib.hid hall
    clear hall
    by_cases hlt : j < s.size
    · have hg := M.bs_get s j hlt
      obtain ⟨c, ec⟩ : ∃ c, c = (M.bs s).getD j 0 := ⟨_, rfl⟩
      rw [← ec] at hg
      have hgc : ((s[j]'hlt).toNat : Int) = (c : Int) := by rw [hg]
      have EC := Lib.hid ec
      have L1 := Lib.hid fun w => rletter_any c w
      have D1 := Lib.hid fun w => rdigit_any c w
      clear hg ec
      cases hl : M.letterB c with
      | true =>
        rw [hl] at L1
        have HN := Lib.hid (show M.nameB c = true by unfold M.nameB; rw [hl]; rfl)
        clear hl
        go_wp2_with fail
        (with_reducible refine (L1.out _).mono ?_)
        rintro e w' ⟨rfl, rfl⟩
        go_wp2_with fail
        go_round
        case rel => exact ⟨j + 1, by omega, by omega, by go_num, fun i h1 h2 => by
          rcases (show i < j ∨ i = j by omega) with h | rfl
          · exact HA.out i h1 h
          · rw [← EC.out]; exact HN.out⟩
        case measure => simp [intOf]; omega
      | false =>
        rw [hl] at L1
        cases hd : M.digitB c with
        | true =>
          rw [hd] at D1
          have HN := Lib.hid (show M.nameB c = true by unfold M.nameB; rw [hl, hd]; rfl)
          clear hl hd
          go_wp2_with fail
          (with_reducible refine (L1.out _).mono ?_)
          rintro e w' ⟨rfl, rfl⟩
          go_wp2_with fail
          (with_reducible refine (D1.out _).mono ?_)
          rintro e w' ⟨rfl, rfl⟩
          go_wp2_with fail
          go_round
          case rel => exact ⟨j + 1, by omega, by omega, by go_num, fun i h1 h2 => by
            rcases (show i < j ∨ i = j by omega) with h | rfl
            · exact HA.out i h1 h
            · rw [← EC.out]; exact HN.out⟩
          case measure => simp [intOf]; omega
        | false =>
          rw [hd] at D1
          by_cases h95 : c = 95
          · have HN := Lib.hid (show M.nameB c = true by rw [h95]; decide)
            have hb : ((c : Int) == 95) = true := by simp [h95]
            clear hl hd h95
            go_wp2_with fail
            (with_reducible refine (L1.out _).mono ?_)
            rintro e w' ⟨rfl, rfl⟩
            go_wp2_with fail
            (with_reducible refine (D1.out _).mono ?_)
            rintro e w' ⟨rfl, rfl⟩
            go_wp2_with fail
            go_round
            case rel => exact ⟨j + 1, by omega, by omega, by go_num, fun i h1 h2 => by
              rcases (show i < j ∨ i = j by omega) with h | rfl
              · exact HA.out i h1 h
              · rw [← EC.out]; exact HN.out⟩
            case measure => simp [intOf]; omega
          · have hb : ((c : Int) == 95) = false := by rw [beq_eq_false_iff_ne]; omega
            have HN := Lib.hid (show M.nameB c = false by unfold M.nameB; rw [hl, hd]; simpa using h95)
            clear hl hd h95
            have HT := Lib.hid (M.run_of (f := M.nameB) haj hj HA.out (fun _ => by rw [← EC.out]; exact HN.out))
            have hxl := M.bs_extract_len s haj hj
            have HX := Lib.hid hxl
            clear hxl
            by_cases h24 : 24 < j - a
            · have HW := Lib.hid (show M.wordL ((M.bs s).drop a) = (3, 0, []) by rw [WN.out, HT.out, HX.out, if_pos h24])
              have hd24 : 24 < (j : Int) - (a : Int) := by omega
              clear h24
              go_wp2_with fail
              (with_reducible refine (L1.out _).mono ?_)
              rintro e w' ⟨rfl, rfl⟩
              go_wp2_with fail
              (with_reducible refine (D1.out _).mono ?_)
              rintro e w' ⟨rfl, rfl⟩
              go_wp2_with fail
              exact bodyPost_ret (v := .tuple #[.agg #[.int .i64 0, .string ⟨#[]⟩, .int .i64 0], .int .i64 3]) (by simp [results, Tryz.results37, go_sem]) rfl (word_end HW.out rfl (by simp) (by first | exact (balloc8 _ _) | exact ((balloc8 _ _).setCell (by simp) _)))
            · have HW := Lib.hid (show M.wordL ((M.bs s).drop a) = (0, 1, M.bs (s.extract a j)) by rw [WN.out, HT.out, HX.out, if_neg h24])
              have hd24 : (j : Int) - (a : Int) ≤ 24 := by omega
              clear h24
              go_wp2_with fail
              (with_reducible refine (L1.out _).mono ?_)
              rintro e w' ⟨rfl, rfl⟩
              go_wp2_with fail
              (with_reducible refine (D1.out _).mono ?_)
              rintro e w' ⟨rfl, rfl⟩
              go_wp2_with fail
              exact bodyPost_ret (v := .tuple #[.agg #[.int .i64 1, .string (s.extract a j), .int .i64 a], .int .i64 0]) (by simp [results, Tryz.results37, go_sem]) rfl (word_end HW.out rfl (by simp) (by first | exact (balloc8 _ _) | exact ((balloc8 _ _).setCell (by simp) _)))
    · obtain rfl : j = s.size := by omega
      have HT := Lib.hid (M.run_of (f := M.nameB) haj hj HA.out (fun h => absurd h (by omega) /- size -/))
      have hxl := M.bs_extract_len s haj hj
      have HX := Lib.hid hxl
      clear hxl
      by_cases h24 : 24 < s.size - a
      · have HW := Lib.hid (show M.wordL ((M.bs s).drop a) = (3, 0, []) by rw [WN.out, HT.out, HX.out, if_pos h24])
        have hd24 : 24 < (s.size : Int) - (a : Int) := by omega
        clear h24
        go_wp2_with fail
        exact bodyPost_ret (v := .tuple #[.agg #[.int .i64 0, .string ⟨#[]⟩, .int .i64 0], .int .i64 3]) (by simp [results, Tryz.results37, go_sem]) rfl (word_end HW.out rfl (by simp) (by first | exact (balloc8 _ _) | exact ((balloc8 _ _).setCell (by simp) _)))
      · have HW := Lib.hid (show M.wordL ((M.bs s).drop a) = (0, 1, M.bs (s.extract a s.size)) by rw [WN.out, HT.out, HX.out, if_neg h24])
        have hd24 : (s.size : Int) - (a : Int) ≤ 24 := by omega
        clear h24
        go_wp2_with fail
        exact bodyPost_ret (v := .tuple #[.agg #[.int .i64 1, .string (s.extract a s.size), .int .i64 a], .int .i64 0]) (by simp [results, Tryz.results37, go_sem]) rfl (word_end HW.out rfl (by simp) (by first | exact (balloc8 _ _) | exact ((balloc8 _ _).setCell (by simp) _)))
end Go.Proofs.YtngpedcihajepaaGreatDoor
namespace Go.Proofs.YtngpedcihajepaaGreatDoor
open Go.RowKit
set_option linter.unusedVariables false
set_option maxRecDepth 100000
set_option maxHeartbeats 4000000 in
theorem word_num_any (s : ByteArray) (a : Nat) (w : World) (hs : s.size ≤ 140737488351232) (ha : a < s.size) (hl : M.letterB ((M.bs s).getD a 0) = false) (hd : M.digitB ((M.bs s).getD a 0) = true) : Calls Tryz.prog 37 #[.string s, .int .i64 a] w (WordEnd s a w) := by
  have hud : ∀ b : Bool, undef ≠ Value.bool b := fun b h => by cases h
  have LEN := Lib.hid (M.bs_len s)
  have WN := Lib.hid (M.word_num ha hl hd)
  have hg := M.bs_get s a ha
  obtain ⟨c, ec⟩ : ∃ c, c = (M.bs s).getD a 0 := ⟨_, rfl⟩
  rw [← ec] at hg hl hd
  have hgc : ((s[a]'ha).toNat : Int) = (c : Int) := by rw [hg]
  have L1 := Lib.hid fun w => rletter_any c w
  have D1 := Lib.hid fun w => rdigit_any c w
  rw [hl] at L1
  rw [hd] at D1
  clear hg ec hl hd
  go_enter Tryz.func37, Tryz.ntmps37
  go_wp2_with fail
  (with_reducible refine (L1.out _).mono ?_)
  rintro e w' ⟨rfl, rfl⟩
  go_wp2_with fail
  (with_reducible refine (D1.out _).mono ?_)
  rintro e w' ⟨rfl, rfl⟩
  go_wp2_with fail
  clear hgc L1 D1
  go_loop [6] (fun tj => ∃ j : Nat, a ≤ j ∧ j ≤ s.size ∧ tj = .int .i64 j ∧ (∀ i, a ≤ i → i < j → M.digitB ((M.bs s).getD i 0) = true)) (fun tj => s.size - (intOf tj).toNat)
  case atStart => exact ⟨a, Nat.le_refl _, by omega, rfl, fun i h1 h2 => absurd h2 (by omega)⟩
  case round =>
    obtain ⟨j, haj, hj, rfl, hall⟩ := hrel
    have HA := Lib.hid hall
    clear hall
    by_cases hlt : j < s.size
    · have hg := M.bs_get s j hlt
      obtain ⟨c, ec⟩ : ∃ c, c = (M.bs s).getD j 0 := ⟨_, rfl⟩
      rw [← ec] at hg
      have hgc : ((s[j]'hlt).toNat : Int) = (c : Int) := by rw [hg]
      have EC := Lib.hid ec
      have D1 := Lib.hid fun w => rdigit_any c w
      clear hg ec
      cases hd : M.digitB c with
      | true =>
        rw [hd] at D1
        have HN := Lib.hid hd
        clear hd
        go_wp2_with fail
        (with_reducible refine (D1.out _).mono ?_)
        rintro e w' ⟨rfl, rfl⟩
        go_wp2_with fail
        go_round
        case rel => exact ⟨j + 1, by omega, by omega, by go_num, fun i h1 h2 => by
          rcases (show i < j ∨ i = j by omega) with h | rfl
          · exact HA.out i h1 h
          · rw [← EC.out]; exact HN.out⟩
        case measure => simp [intOf]; omega
      | false =>
        rw [hd] at D1
        have HN := Lib.hid hd
        clear hd
        have HT := Lib.hid (M.run_of (f := M.digitB) haj hj HA.out (fun _ => by rw [← EC.out]; exact HN.out))
        have hxs : (s.extract a j).size ≤ 140737488351232 := by have := M.bs_len (s.extract a j); have h2 := M.bs_extract_len s haj hj; omega
        have NU := Lib.hid fun w => rnumber_any (s.extract a j) w hxs
        clear hxs
        obtain ⟨G, eG⟩ : ∃ G, G = M.numE (M.bs (s.extract a j)) := ⟨_, rfl⟩
        obtain ⟨V, eV⟩ : ∃ V, V = M.numV (M.bs (s.extract a j)) := ⟨_, rfl⟩
        rw [← eG, ← eV] at NU
        clear eV
        by_cases hG : G = 0
        · have HW := Lib.hid (show M.wordL ((M.bs s).drop a) = (0, 2, M.bs (s.extract a j)) by rw [WN.out, HT.out, ← eG, if_pos hG])
          clear eG
          subst hG
          go_wp2_with fail
          (with_reducible refine (D1.out _).mono ?_)
          rintro e w' ⟨rfl, rfl⟩
          go_wp2_with fail
          (with_reducible refine (NU.out _).mono ?_)
          rintro e w' ⟨rfl, rfl⟩
          go_wp2_with fail
          exact bodyPost_ret (v := .tuple #[.agg #[.int .i64 2, .string (s.extract a j), .int .i64 a], .int .i64 0]) (by simp [results, Tryz.results37, go_sem]) rfl (word_end HW.out rfl (by simp) (by first | exact (balloc8 _ _) | exact ((balloc8 _ _).setCell (by simp) _)))
        · have HW := Lib.hid (show M.wordL ((M.bs s).drop a) = (G, 0, []) by rw [WN.out, HT.out, ← eG, if_neg hG])
          have hgb : (G != 0) = true := by rw [bne_iff_ne]; exact hG
          have HG := Lib.hid hG
          clear eG hG
          go_wp2_with fail
          (with_reducible refine (D1.out _).mono ?_)
          rintro e w' ⟨rfl, rfl⟩
          go_wp2_with fail
          (with_reducible refine (NU.out _).mono ?_)
          rintro e w' ⟨rfl, rfl⟩
          go_wp2_with fail
          exact bodyPost_ret (v := .tuple #[.agg #[.int .i64 0, .string ⟨#[]⟩, .int .i64 0], .int .i64 G]) (by simp [results, Tryz.results37, go_sem]) rfl (word_end HW.out rfl (by rw [if_neg HG.out]) (by first | exact (balloc8 _ _) | exact ((balloc8 _ _).setCell (by simp) _)))
    · obtain rfl : j = s.size := by omega
      have HT := Lib.hid (M.run_of (f := M.digitB) haj hj HA.out (fun h => absurd h (by omega)))
      have hxs : (s.extract a s.size).size ≤ 140737488351232 := by have := M.bs_len (s.extract a s.size); have h2 := M.bs_extract_len s haj hj; omega
      have NU := Lib.hid fun w => rnumber_any (s.extract a s.size) w hxs
      clear hxs
      obtain ⟨G, eG⟩ : ∃ G, G = M.numE (M.bs (s.extract a s.size)) := ⟨_, rfl⟩
      obtain ⟨V, eV⟩ : ∃ V, V = M.numV (M.bs (s.extract a s.size)) := ⟨_, rfl⟩
      rw [← eG, ← eV] at NU
      clear eV
      by_cases hG : G = 0
      · have HW := Lib.hid (show M.wordL ((M.bs s).drop a) = (0, 2, M.bs (s.extract a s.size)) by rw [WN.out, HT.out, ← eG, if_pos hG])
        clear eG
        subst hG
        go_wp2_with fail
        (with_reducible refine (NU.out _).mono ?_)
        rintro e w' ⟨rfl, rfl⟩
        go_wp2_with fail
        exact bodyPost_ret (v := .tuple #[.agg #[.int .i64 2, .string (s.extract a s.size), .int .i64 a], .int .i64 0]) (by simp [results, Tryz.results37, go_sem]) rfl (word_end HW.out rfl (by simp) (by first | exact (balloc8 _ _) | exact ((balloc8 _ _).setCell (by simp) _)))
      · have HW := Lib.hid (show M.wordL ((M.bs s).drop a) = (G, 0, []) by rw [WN.out, HT.out, ← eG, if_neg hG])
        have hgb : (G != 0) = true := by rw [bne_iff_ne]; exact hG
        have HG := Lib.hid hG
        clear eG hG
        go_wp2_with fail
        (with_reducible refine (NU.out _).mono ?_)
        rintro e w' ⟨rfl, rfl⟩
        go_wp2_with fail
        exact bodyPost_ret (v := .tuple #[.agg #[.int .i64 0, .string ⟨#[]⟩, .int .i64 0], .int .i64 G]) (by simp [results, Tryz.results37, go_sem]) rfl (word_end HW.out rfl (by rw [if_neg HG.out]) (by first | exact (balloc8 _ _) | exact ((balloc8 _ _).setCell (by simp) _)))
end Go.Proofs.YtngpedcihajepaaGreatDoor
namespace Go.Proofs.YtngpedcihajepaaGreatDoor
open Go.RowKit
set_option linter.unusedVariables false
set_option maxRecDepth 100000
namespace M
theorem find_at {f : ByteArray → Bool} {l : List ByteArray} {i : Nat} (hi : i < l.length) (h : f (l.getD i ByteArray.empty) = true) (hn : ∀ j, j < i → f (l.getD j ByteArray.empty) = false) : l.find? f = some (l.getD i ByteArray.empty) := by
  induction l generalizing i with
  | nil => simp at hi
  | cons x r ih =>
    cases i with
    | zero =>
      have h' : f x = true := h
      rw [List.find?_cons_of_pos h']; rfl
    | succ i =>
      have h0 : f x = false := hn 0 (by omega)
      rw [List.find?_cons_of_neg (by rw [h0]; decide)]
      exact ih (by simpa using hi) h (fun j hj => hn (j + 1) (by omega))
theorem find_none {f : ByteArray → Bool} {l : List ByteArray} (hn : ∀ j, j < l.length → f (l.getD j ByteArray.empty) = false) : l.find? f = none := by
  induction l with
  | nil => rfl
  | cons x r ih =>
    have h0 : f x = false := hn 0 (by simp)
    rw [List.find?_cons_of_neg (by rw [h0]; decide)]
    exact ih (fun j hj => hn (j + 1) (by simpa using hj))
/-- does the text at a begin with x? -/
def begB (s : ByteArray) (a : Nat) (x : ByteArray) : Bool := decide (x.size ≤ s.size - a ∧ s.extract a (a + x.size) = x)
theorem begB_iff {s : ByteArray} {a : Nat} (x : ByteArray) (h : a < s.size) : begB s a x = (bs x).isPrefixOf ((bs s).drop a) := by
  rw [Bool.eq_iff_iff]
  unfold begB
  rw [decide_eq_true_eq, List.isPrefixOf_iff_prefix, List.prefix_iff_eq_take, bs_len]
  constructor
  · rintro ⟨h1, h2⟩
    have h3 := bs_extract s a (a + x.size) (by omega)
    rw [h2, show a + x.size - a = x.size by omega] at h3
    exact h3
  · intro h2
    have hlen := congrArg List.length h2
    rw [List.length_take, List.length_drop, bs_len, bs_len] at hlen
    have hle : x.size ≤ s.size - a := by omega
    refine ⟨hle, bs_inj ?_⟩
    rw [bs_extract s a (a + x.size) (by omega), show a + x.size - a = x.size by omega]
    exact h2.symm
theorem signs_find {s : ByteArray} {a : Nat} (h : a < s.size) : signOf ((bs s).getD a 0) ((bs s).drop (a + 1)).head? = (match signs8.find? (begB s a) with | some x => (0, 3, bs x) | none => (4, 0, [])) := by
  have e := drop_cons (L := bs s) (i := a) (by rw [bs_len]; exact h)
  have hf : signs8.find? (begB s a) = signs8.find? (fun x => (bs x).isPrefixOf ((bs s).drop a)) := by
    congr 1; funext x; exact begB_iff x h
  rw [hf, e]
  obtain ⟨c, ec⟩ : ∃ c, c = (bs s).getD a 0 := ⟨_, rfl⟩
  obtain ⟨r, er⟩ : ∃ r, r = (bs s).drop (a + 1) := ⟨_, rfl⟩
  rw [← ec, ← er]
  clear e ec er hf
  unfold signOf
  by_cases h1 : c = 61 ∧ r.head? = some 61
  · rw [if_pos h1]
    obtain ⟨rfl, h2⟩ := h1
    cases r with
    | nil => cases h2
    | cons d r =>
      simp only [List.head?_cons, Option.some.injEq] at h2
      subst h2
      rfl
  · rw [if_neg h1]
    have hn : ([61, 61] : List Nat).isPrefixOf (c :: r) = false := by
      cases hh : ([61, 61] : List Nat).isPrefixOf (c :: r) with
      | false => rfl
      | true =>
        rw [List.isPrefixOf_iff_prefix] at hh
        obtain ⟨q, hq⟩ := hh
        simp only [List.cons_append, List.nil_append, List.cons.injEq] at hq
        obtain ⟨rfl, rfl⟩ := hq
        exact absurd ⟨rfl, rfl⟩ h1
    by_cases hc : c ∈ singles
    · rw [if_pos hc]
      simp only [singles, List.mem_cons, List.not_mem_nil, or_false] at hc
      unfold signs8
      rw [List.find?_cons_of_neg (by rw [show bs ⟨#[61, 61]⟩ = [61, 61] from rfl, hn]; decide)]
      rcases hc with rfl | rfl | rfl | rfl | rfl | rfl | rfl | rfl | rfl | rfl | rfl | rfl | rfl | rfl | rfl | rfl | rfl | rfl <;> rfl
    · rw [if_neg hc]
      have : signs8.find? (fun x => (bs x).isPrefixOf (c :: r)) = none := by
        rw [List.find?_eq_none]
        intro x hx hp
        have hx2 : bs x ∈ signs8.map bs := List.mem_map_of_mem hx
        have hs : signB (bs x) = true := by rw [← signB_is]; simpa using hx2
        rcases sign_cases hs with h2 | ⟨d, h2, hd⟩
        · rw [h2, hn] at hp; cases hp
        · rw [h2, List.isPrefixOf_iff_prefix] at hp
          obtain ⟨q, hq⟩ := hp
          simp only [List.cons_append, List.nil_append, List.cons.injEq] at hq
          rw [hq.1] at hd
          exact hc hd
      rw [this]
end M
set_option maxHeartbeats 4000000 in
theorem word_sign_any (s : ByteArray) (a : Nat) (w : World) (hs : s.size ≤ 140737488351232) (ha : a < s.size) (hl : M.letterB ((M.bs s).getD a 0) = false) (hd : M.digitB ((M.bs s).getD a 0) = false) : Calls Tryz.prog 37 #[.string s, .int .i64 a] w (WordEnd s a w) := by
  have hud : ∀ b : Bool, undef ≠ Value.bool b := fun b h => by cases h
  have LEN := Lib.hid (M.bs_len s)
  have WN := Lib.hid ((M.word_sign ha hl hd).trans (M.signs_find ha))
  have hg := M.bs_get s a ha
  obtain ⟨c, ec⟩ : ∃ c, c = (M.bs s).getD a 0 := ⟨_, rfl⟩
  rw [← ec] at hg hl hd
  have hgc : ((s[a]'ha).toNat : Int) = (c : Int) := by rw [hg]
  have L1 := Lib.hid fun w => rletter_any c w
  have D1 := Lib.hid fun w => rdigit_any c w
  have SG := Lib.hid fun w => signs_any w
  have HB0 := Lib.hid (balloc8 w (.cells #[.int .i64 0, .string ⟨#[]⟩, .int .i64 0] 43))
  rw [hl] at L1
  rw [hd] at D1
  clear hg ec hl hd
  go_enter Tryz.func37, Tryz.ntmps37
  go_wp2_with fail
  (with_reducible refine (L1.out _).mono ?_)
  rintro e w' ⟨rfl, rfl⟩
  go_wp2_with fail
  (with_reducible refine (D1.out _).mono ?_)
  rintro e w' ⟨rfl, rfl⟩
  go_wp2_with fail
  clear hgc L1 D1
  (with_reducible refine (SG.out _).mono ?_)
  rintro e w1 ⟨v1, rfl, hv1, hb⟩
  have z0 : w1.cell? ⟨w.heap.size, 0, none⟩ = some (.int .i64 0) := (hb.cell (p := ⟨w.heap.size, 0, none⟩) (by simp)).trans (by simp)
  have z1 : w1.cell? ⟨w.heap.size, 1, none⟩ = some (.string ⟨#[]⟩) := (hb.cell (p := ⟨w.heap.size, 1, none⟩) (by simp)).trans (by simp)
  have z2 : w1.cell? ⟨w.heap.size, 2, none⟩ = some (.int .i64 0) := (hb.cell (p := ⟨w.heap.size, 2, none⟩) (by simp)).trans (by simp)
  have y0 : w1.frozen? ⟨w.heap.size, 0, none⟩ = false := (hb.frozen (p := ⟨w.heap.size, 0, none⟩) (by simp)).trans (by simp)
  have y1 : w1.frozen? ⟨w.heap.size, 1, none⟩ = false := (hb.frozen (p := ⟨w.heap.size, 1, none⟩) (by simp)).trans (by simp)
  have y2 : w1.frozen? ⟨w.heap.size, 2, none⟩ = false := (hb.frozen (p := ⟨w.heap.size, 2, none⟩) (by simp)).trans (by simp)
  have HB1 := Lib.hid (bnext8 HB0.out hb)
  obtain ⟨-, A, cap, rfl, hcell⟩ := hv1
  obtain ⟨b, off, rfl, hcell⟩ := hcell (by decide)
  have HC := Lib.hid hcell
  clear hcell hb
  simp only [show signs8.length = 19 from rfl]
  go_wp2_with fail
  go_loop [89] (fun ti => ∃ i : Nat, i ≤ 19 ∧ ti = .int .i64 i ∧ (∀ j, j < i → M.begB s a (signs8.getD j ByteArray.empty) = false)) (fun ti => 19 - (intOf ti).toNat)
  case atStart => exact ⟨0, by omega, rfl, fun j hj => absurd hj (by omega)⟩
  case round =>
    obtain ⟨i, hi, rfl, hall⟩ := hrel
    have HA := Lib.hid hall
    clear hall
    by_cases hlt : i < 19
    · have hx := (show ∀ i, i < signs8.length → w1.cell? ⟨b, off + i, none⟩ = some (.string (signs8.getD i ByteArray.empty)) by obtain ⟨b', off', e, h⟩ := HC.out (by decide); simp only [Option.some.injEq, Addr.mk.injEq] at e; obtain ⟨rfl, rfl, -⟩ := e; exact h) i hlt
      obtain ⟨x, ex⟩ : ∃ x, x = signs8.getD i ByteArray.empty := ⟨_, rfl⟩
      rw [← ex] at hx
      have EX := Lib.hid ex
      have hxs : x.size ≤ 2 := by rw [ex]; exact (show ∀ i : Fin 19, (signs8.getD i.1 ByteArray.empty).size ≤ 2 by decide) ⟨i, hlt⟩
      clear ex
      by_cases hle : x.size ≤ s.size - a
      · have hd1 : (x.size : Int) ≤ (s.size : Int) - (a : Int) := by omega
        have hI : ((a : Int) + (x.size : Int)).toNat = a + x.size := by omega
        by_cases heq : s.extract a (a + x.size) = x
        · have hq : ((s.extract a (a + x.size)).toList == x.toList) = true := by rw [heq]; simp
          have HF := Lib.hid (show signs8.find? (M.begB s a) = some x by rw [EX.out]; exact M.find_at hlt (by rw [← EX.out]; unfold M.begB; rw [decide_eq_true_eq]; exact ⟨hle, heq⟩) HA.out)
          have HW := Lib.hid (show M.wordL ((M.bs s).drop a) = (0, 3, M.bs x) by rw [WN.out, HF.out])
          clear heq hle
          go_wp2_with fail
          exact bodyPost_ret (v := .tuple #[.agg #[.int .i64 3, .string x, .int .i64 a], .int .i64 0]) (by simp [results, Tryz.results37, go_sem, z0, z1, z2]) rfl (word_end HW.out rfl (by simp) (((HB1.out.setCell (by simp) _).setCell (by simp) _).setCell (by simp) _))
        · have hq := M.str_ne heq
          have HNO := Lib.hid (show M.begB s a (signs8.getD i ByteArray.empty) = false by rw [← EX.out]; unfold M.begB; rw [decide_eq_false_iff_not]; exact fun h => heq h.2)
          clear heq hle
          go_wp2_with fail
          go_round
          case rel => exact ⟨i + 1, by omega, by go_num, fun j hj => by
            rcases (show j < i ∨ j = i by omega) with h | rfl
            · exact HA.out j h
            · exact HNO.out⟩
          case measure => simp [intOf]; omega
      · have hd1 : ¬ (x.size : Int) ≤ (s.size : Int) - (a : Int) := by omega
        have HNO := Lib.hid (show M.begB s a (signs8.getD i ByteArray.empty) = false by rw [← EX.out]; unfold M.begB; rw [decide_eq_false_iff_not]; exact fun h => hle h.1)
        clear hle
        go_wp2_with fail
        go_round
        case rel => exact ⟨i + 1, by omega, by go_num, fun j hj => by
          rcases (show j < i ∨ j = i by omega) with h | rfl
          · exact HA.out j h
          · exact HNO.out⟩
        case measure => simp [intOf]; omega
    · obtain rfl : i = 19 := by omega
      have HW := Lib.hid (show M.wordL ((M.bs s).drop a) = (4, 0, []) by rw [WN.out, M.find_none (fun j hj => HA.out j hj)])
      go_wp2_with fail
      exact bodyPost_ret (v := .tuple #[.agg #[.int .i64 0, .string ⟨#[]⟩, .int .i64 0], .int .i64 4]) (by simp [results, Tryz.results37, go_sem, z0, z1, z2]) rfl (word_end HW.out rfl (by simp) (by first | exact HB1.out | exact (((HB1.out.setCell (by simp) _).setCell (by simp) _).setCell (by simp) _)))
theorem word_any (s : ByteArray) (a : Nat) (w : World) (hs : s.size ≤ 140737488351232) (ha : a < s.size) : Calls Tryz.prog 37 #[.string s, .int .i64 a] w (WordEnd s a w) := by
  cases hl : M.letterB ((M.bs s).getD a 0) with
  | true => exact word_name_any s a w hs ha hl
  | false =>
    cases hd : M.digitB ((M.bs s).getD a 0) with
    | true => exact word_num_any s a w hs ha hl hd
    | false => exact word_sign_any s a w hs ha hl hd
end Go.Proofs.YtngpedcihajepaaGreatDoor
namespace Go.Proofs.YtngpedcihajepaaGreatDoor
open Go.RowKit
set_option linter.unusedVariables false
set_option maxRecDepth 100000

set_option maxHeartbeats 4000000 in
theorem rread_any (s : ByteArray) (w : World) (hs : s.size ≤ 140737488351232) : Calls Tryz.prog 23 #[.string s] w (ReadEnd s w) := by
  have hud : ∀ b : Bool, undef ≠ Value.bool b := fun b h => by cases h
  have LEN := Lib.hid (M.bs_len s)
  have HB0 := Lib.hid (Below.refl w.heap.size w)
  by_cases hbig : 20000 < s.size
  · go_enter Tryz.func23, Tryz.ntmps23
    go_wp2_with fail
    go_ret3
    exact read_long hbig HB0.out
  have hd20 : decide ((s.size : Int) > 20000) = false := by rw [decide_eq_false_iff_not]; omega
  have hd21 : decide (20000 < (s.size : Int)) = false := by rw [decide_eq_false_iff_not]; omega
  have hsz : s.size ≤ 20000 := by omega
  have HS := Lib.hid hsz
  have SK := Lib.hid fun (a : Nat) (w : World) (ha : a ≤ s.size) => rskip_any s a w hs ha
  have WO := Lib.hid fun (a : Nat) (w : World) (ha : a < s.size) => word_any s a w hs ha
  obtain ⟨i0, hi0, hz0, hz1, hz2⟩ : ∃ i, Tryz.prog.info? 43 = some i ∧ i.zero = some (.agg #[.int .i64 0, .string ⟨#[]⟩, .int .i64 0]) ∧ i.size = 3 ∧ i.bytes = 32 := by
    have h := infoTok
    cases hq : Tryz.prog.info? 43 with
    | none => rw [hq] at h; cases h
    | some i => rw [hq] at h; simp only [Option.map_some, Option.some.injEq, Prod.mk.injEq] at h; exact ⟨i, rfl, h.1, h.2.1, h.2.2⟩
  obtain ⟨a0, ea⟩ : ∃ a, a = M.skipAt (M.bs s) 0 := ⟨_, rfl⟩
  have G0 := Lib.hid (show Calls Tryz.prog 36 #[.string s, .int .i64 0] w fun e w' => e = .returned (.int .i64 (M.skipAt (M.bs s) 0 : Nat)) ∧ w = w' from SK.out 0 w (Nat.zero_le _))
  rw [← ea] at G0
  have HA := Lib.hid ea
  have ha0 : a0 ≤ s.size := by rw [ea, ← M.bs_len]; exact M.skipAt_le _ _
  clear ea hs hbig
  go_enter Tryz.func23, Tryz.ntmps23
  go_wp2_with fail
  (with_reducible refine (G0.out).mono ?_)
  rintro e w' ⟨rfl, rfl⟩
  go_wp2_with fail
  go_loopw [5, 6] (fun tl ta wr => ∃ (A : List T8) (ts : List M.Tok) (i : Nat), i ≤ s.size ∧ ta = .int .i64 i ∧ A.length ≤ i ∧ wr.ownsRow w.heap.size 43 3 tl A.length (tokCells A) ∧ View A ts ∧ Sofar s i ts ∧ Below w.heap.size w wr) (fun _ ta _ => s.size - (intOf ta).toNat)
  case atStart => exact ⟨[], [], a0, ha0, rfl, Nat.zero_le _, World.ownsRow_nil _ _ _ _, View.nil, by rw [HA.out]; exact Sofar.start s, HB0.out⟩
  case round =>
    obtain ⟨A, ts, i, hi, rfl, hAi, hown, hview, hso, hB⟩ := hrel
    have HO := Lib.hid hown
    have HVI := Lib.hid hview
    have HSO := Lib.hid hso
    have HB := Lib.hid hB
    clear hown hview hso hB
    by_cases hlt : i < s.size
    · have F1 := Lib.hid (WO.out i wr hlt)
      unfold WordEnd at F1
      obtain ⟨E, k, tx, hw⟩ : ∃ E k tx, M.wordL ((M.bs s).drop i) = (E, k, tx) := ⟨_, _, _, rfl⟩
      rw [hw] at F1
      have HW := Lib.hid hw
      clear hw
      by_cases hE : E = 0
      · subst hE
        have F2 := Lib.hid ((F1.out).mono (fun e w' h => by rw [if_pos rfl] at h; exact h))
        clear F1
        go_wp2_with fail
        (with_reducible refine (F2.out).mono ?_)
        rintro e w1 ⟨T, rfl, hT, hb1⟩
        have HB1 := Lib.hid (HB.out.trans (hb1.mono HB.out.size))
        have HO1 := Lib.hid (own_below HO.out hb1)
        have HT := Lib.hid hT
        clear hT hb1
        have hwl := M.word_len HW.out
        have hTl : T.size = tx.length := by rw [← M.bs_len, HT.out]
        have hle : i + T.size ≤ s.size := by rw [hTl]; rw [List.length_drop, LEN.out] at hwl; omega
        have hT1 : 1 ≤ T.size := by rw [hTl]; exact hwl.1
        have HTL := Lib.hid hTl
        have HAI := Lib.hid hAi
        clear hwl hTl hAi
        have k1 : ∀ (j : Nat) (u : Value), [Value.int .i64 k, Value.string T, Value.int .i64 (i : Nat)][j]? = some u → ((w1.alloc (.cells #[.int .i64 k, .string T, .int .i64 (i : Nat)] 43)).alloc (.cells #[.int .i64 k, .string T, .int .i64 (i : Nat)] 43)).cell? ((⟨w1.heap.size + 1, 0, none⟩ : Addr).add j) = some u := by
          intro j u hu
          rw [Addr.add_lit]
          match j, hu with
          | 0, hu => simpa using hu
          | 1, hu => simpa using hu
          | 2, hu => simpa using hu
        have K1 := Lib.hid k1
        have HBA := Lib.hid ((HB1.out.alloc HB1.out.size (.cells #[.int .i64 k, .string T, .int .i64 (i : Nat)] 43)).alloc (by have := HB1.out.size; simp; omega) (.cells #[.int .i64 k, .string T, .int .i64 (i : Nat)] 43))
        clear k1
        go_wp2_with (at_builtin; refine wpList_append_own _ rfl _ _ 39 rfl w.heap.size 43 i0 (.agg #[.int .i64 0, .string ⟨#[]⟩, .int .i64 0]) 3 32 Tryz.underlying39 hi0 hz0 hz1 hz2 rfl (by decide) _ _ _ rfl ((HO1.out.alloc _).alloc _) ⟨w1.heap.size + 1, 0, none⟩ 1 1 [.int .i64 k, .string T, .int .i64 (i : Nat)] rfl rfl K1.out ?d2 ?d3 ?d4 ?d5 ?_)
        case d2 => intro u hu; simp at hu; rcases hu with rfl | rfl | rfl <;> rfl
        case d3 => have := HAI.out; have := HS.out; unfold maxLen; omega
        case d4 => have := HAI.out; have := HS.out; omega
        case d5 => have := HB1.out.size; simp; omega
        intro v' w2 hown hgrow _
        have HB2 := Lib.hid (HBA.out.grown hgrow (by have := HB1.out.size; simp; omega) (fun j e => by have := (HO1.out.lt j e).1; omega))
        have HO2 := Lib.hid (show w2.ownsRow w.heap.size 43 3 v' (A ++ [(⟨k, T, (i : Nat)⟩ : T8)]).length (tokCells (A ++ [(⟨k, T, (i : Nat)⟩ : T8)])) by
          rw [tokCells_app, List.length_append]; exact hown)
        have hbx : w2.cell? ⟨w1.heap.size, 1, none⟩ = some (.string T) := (World.cell?_of_block (a := ⟨w1.heap.size, 1, none⟩) (hgrow.block w1.heap.size (by simp; omega) (fun e => by have := (HO1.out.lt _ e.symm).2; omega))).trans (by simp)
        obtain ⟨j, ej⟩ : ∃ j, j = M.skipAt (M.bs s) (i + T.size) := ⟨_, rfl⟩
        have G1 := Lib.hid (SK.out (i + T.size) w2 hle)
        rw [← ej, show ((i + T.size : Nat) : Int) = (i : Int) + (T.size : Int) by omega] at G1
        have hle2 : j ≤ s.size := by rw [ej, ← LEN.out]; exact M.skipAt_le _ _
        have hge2 : i + T.size ≤ j := by rw [ej]; exact M.skipAt_ge _ _ (by rw [LEN.out]; exact hle)
        have HJ := Lib.hid (show (M.bs s).drop j = M.skipL ((M.bs s).drop (i + tx.length)) by rw [ej, M.drop_skipAt, HTL.out])
        clear hown hgrow ej
        go_wp2_with fail
        (with_reducible refine (G1.out).mono ?_)
        rintro e w' ⟨rfl, rfl⟩
        go_wp2_with fail
        go_roundw
        case rel => exact ⟨A ++ [(⟨k, T, (i : Nat)⟩ : T8)], ts ++ [⟨k, tx, i⟩], j, hle2, by go_num, by rw [List.length_append]; have := HAI.out; simp; omega, HO2.out, HVI.out.snoc rfl HT.out rfl, HSO.out.more hlt HW.out HJ.out, HB2.out⟩
        case measure => simp [intOf]; omega
      · have hE1 : (E != 0) = true := by rw [bne_iff_ne]; exact hE
        go_wp2_with fail
        (with_reducible refine (F1.out).mono ?_)
        rintro e w1 ⟨T, rfl, hT, hb1⟩
        have HB1 := Lib.hid (HB.out.trans (hb1.mono HB.out.size))
        have HB3 := Lib.hid (fun o => HB1.out.alloc HB1.out.size o)
        clear hT hb1
        go_wp2_with fail
        go_ret3
        exact read_bad HS.out hE (HSO.out.bad hlt HW.out hE) (HB3.out _)
    · obtain rfl : i = s.size := by omega
      go_wp2_with fail
      go_ret3
      exact read_ok HS.out (toks_of_own (by have := HS.out; omega) HO.out) (by have := HVI.out; rwa [← List.append_nil ts] at this) HSO.out.done HB.out
end Go.Proofs.YtngpedcihajepaaGreatDoor
