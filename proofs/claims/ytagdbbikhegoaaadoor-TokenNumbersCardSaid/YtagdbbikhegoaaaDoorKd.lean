/-
  Tokens: the reference's numbers.
-/
import Derived.Test.YtagdbbikhegoaaaDoorKc
namespace Go.Proofs.YtagdbbikhegoaaaDoor
open Go.RowKit
set_option linter.unusedVariables false
set_option maxRecDepth 100000
namespace M
theorem numE_empty {l : List Nat} (h : l = []) : numE l = 4 := by unfold numE; rw [if_pos (.inl h)]
theorem numE_at {l : List Nat} {i : Nat} (hi : i < l.length) (h : digitB (l.getD i 0) = false) : numE l = 4 := by unfold numE; rw [if_pos (.inr (all_at hi h))]
theorem numE_long {l : List Nat} (h0 : l ≠ []) (h : ∀ j, j < l.length → digitB (l.getD j 0) = true) (h10 : 10 < l.length) : numE l = 3 := by
  unfold numE; rw [if_neg (by rw [all_getD.2 h]; simp [h0]), if_pos h10]
theorem numE_big {l : List Nat} (h0 : l ≠ []) (h : ∀ j, j < l.length → digitB (l.getD j 0) = true) (h10 : ¬ 10 < l.length) (hb : 4294967295 < num l l.length) : numE l = 3 := by
  unfold numE; rw [if_neg (by rw [all_getD.2 h]; simp [h0]), if_neg h10, if_pos hb]
theorem numE_ok {l : List Nat} (h0 : l ≠ []) (h : ∀ j, j < l.length → digitB (l.getD j 0) = true) (h10 : ¬ 10 < l.length) (hb : ¬ 4294967295 < num l l.length) : numE l = 0 := by
  unfold numE; rw [if_neg (by rw [all_getD.2 h]; simp [h0]), if_neg h10, if_neg hb]
theorem numV_no {l : List Nat} (h : numE l ≠ 0) : numV l = 0 := by unfold numV; rw [if_neg h]
theorem num_small {l : List Nat} {k : Nat} (hk : k ≤ 10) (h : ∀ i, i < k → digitB (l.getD i 0) = true) : num l k < 10000000000 := by
  have h1 := num_lt k h
  have h2 : 10 ^ k ≤ 10 ^ 10 := Nat.pow_le_pow_right (by decide) hk
  omega
end M
set_option maxHeartbeats 2000000 in
theorem rnumber_any (s : ByteArray) (w : World) (hs : s.size ≤ 140737488351232) : Calls Tryd.prog 6 #[.string s] w fun e w' => e = .returned (.tuple #[.int .u64 (M.numV (M.bs s) : Nat), .int .i64 (M.numE (M.bs s))]) ∧ w = w' := by
  have hud : ∀ b : Bool, undef ≠ Value.bool b := fun b h => by cases h
  have hlen := M.bs_len s
  have LEN := Lib.hid hlen
  obtain ⟨E, eE⟩ : ∃ E, E = M.numE (M.bs s) := ⟨_, rfl⟩
  obtain ⟨V, eV⟩ : ∃ V, V = M.numV (M.bs s) := ⟨_, rfl⟩
  rw [← eE, ← eV]
  have HE := Lib.hid eE
  have HV := Lib.hid eV
  have NO := Lib.hid (show ∀ c : Int, c ≠ 0 → M.numE (M.bs s) = c → E = c ∧ V = 0 from fun c h0 h => ⟨by rw [eE, h], by rw [eV]; exact M.numV_no (by rw [h]; exact h0)⟩)
  clear eE eV
  by_cases h0 : s.size = 0
  · obtain ⟨rfl, rfl⟩ := NO.out 4 (by decide) (M.numE_empty (List.length_eq_zero_iff.1 (by omega)))
    have he : s.toList.isEmpty = true := by rw [M.empty_is]; simpa using h0
    clear hlen h0
    go_enter Tryd.func6, Tryd.ntmps6
    go_wp2_with fail
    go_ret2
    exact ⟨rfl, rfl⟩
  · have he : s.toList.isEmpty = false := by rw [M.empty_is]; simpa using h0
    have HN := Lib.hid (show M.bs s ≠ [] from fun e => h0 (by rw [← hlen, e]; rfl))
    clear hlen h0
    go_enter Tryd.func6, Tryd.ntmps6
    go_wp2_with fail
    go_loop [11] (fun ti => ∃ i : Nat, i ≤ s.size ∧ ti = .int .i64 i ∧ (∀ j, j < i → M.digitB ((M.bs s).getD j 0) = true)) (fun ti => s.size - (intOf ti).toNat)
    case atStart => exact ⟨0, by omega, rfl, fun j hj => absurd hj (by omega)⟩
    case round =>
      obtain ⟨i, hi, rfl, hall⟩ := hrel
      have HA := Lib.hid hall
      clear hall
      by_cases hlt : i < s.size
      · have hg := M.bs_get s i hlt
        obtain ⟨c, ec⟩ : ∃ c, c = (M.bs s).getD i 0 := ⟨_, rfl⟩
        rw [← ec] at hg
        have hgc : ((s[i]'hlt).toNat : Int) = (c : Int) := by rw [hg]
        have EC := Lib.hid ec
        have D1 := Lib.hid (rdigit_any c w)
        clear hg ec
        cases hd : M.digitB c with
        | true =>
          rw [hd] at D1
          have HD := Lib.hid hd
          clear hd
          go_wp2_with fail
          (with_reducible refine (D1.out).mono ?_)
          rintro e w' ⟨rfl, rfl⟩
          go_wp2_with fail
          go_round
          case rel => exact ⟨i + 1, by omega, by go_num, fun j hj => by
            rcases (show j < i ∨ j = i by omega) with h | rfl
            · exact HA.out j h
            · rw [← EC.out]; exact HD.out⟩
          case measure => simp [intOf]; omega
        | false =>
          rw [hd] at D1
          obtain ⟨rfl, rfl⟩ := NO.out 4 (by decide) (M.numE_at (i := i) (by rw [LEN.out]; exact hlt) (by rw [← EC.out]; exact hd))
          clear hd
          go_wp2_with fail
          (with_reducible refine (D1.out).mono ?_)
          rintro e w' ⟨rfl, rfl⟩
          go_wp2_with fail
          go_ret2
          exact ⟨rfl, rfl⟩
      · obtain rfl : i = s.size := by omega
        have HALL := Lib.hid (show ∀ j, j < (M.bs s).length → M.digitB ((M.bs s).getD j 0) = true from fun j hj => HA.out j (by rw [LEN.out] at hj; exact hj))
        clear HA
        by_cases h10 : 10 < s.size
        · obtain ⟨rfl, rfl⟩ := NO.out 3 (by decide) (M.numE_long HN.out HALL.out (by rw [LEN.out]; exact h10))
          go_wp2_with fail
          go_ret2
          exact ⟨rfl, rfl⟩
        · have h10' : s.size ≤ 10 := by omega
          have hd10 : decide ((s.size : Int) > 10) = false := by rw [decide_eq_false_iff_not]; omega
          go_wp2_with fail
          go_loop [5, 25] (fun tn ti => ∃ i : Nat, i ≤ s.size ∧ ti = .int .i64 i ∧ tn = .int .u64 (M.num (M.bs s) i : Nat)) (fun _ ti => s.size - (intOf ti).toNat)
          case atStart => exact ⟨0, by omega, rfl, rfl⟩
          case round =>
            obtain ⟨i, hi, rfl, rfl⟩ := hrel
            have hnl := M.num_small (l := M.bs s) (k := i) (by omega) (fun j hj => HALL.out j (by rw [LEN.out]; omega))
            by_cases hlt : i < s.size
            · have hg := M.bs_get s i hlt
              obtain ⟨c, ec⟩ : ∃ c, c = (M.bs s).getD i 0 := ⟨_, rfl⟩
              rw [← ec] at hg
              have hgc : ((s[i]'hlt).toNat : Int) = (c : Int) := by rw [hg]
              have hd := HALL.out i (by rw [LEN.out]; exact hlt)
              rw [← ec] at hd
              unfold M.digitB at hd
              rw [decide_eq_true_eq] at hd
              have hd1 := hd.1
              have hd2 := hd.2
              have HS := Lib.hid (show M.num (M.bs s) (i + 1) = 10 * M.num (M.bs s) i + (c - 48) by rw [ec]; rfl)
              obtain ⟨n, en⟩ : ∃ n, n = M.num (M.bs s) i := ⟨_, rfl⟩
              rw [← en] at hnl HS ⊢
              have hw1 : IntKind.u64.wrap (10 * (n : Int)) = 10 * (n : Int) := by rw [IntKind.wrap_u64]; omega
              have hw2 : IntKind.u8.wrap ((c : Int) - 48) = (c : Int) - 48 := by rw [IntKind.wrap_u8]; omega
              have hw3 : IntKind.u64.wrap (10 * (n : Int) + ((c : Int) - 48)) = 10 * (n : Int) + ((c : Int) - 48) := by rw [IntKind.wrap_u64]; omega
              have hw4 : IntKind.u64.wrap ((c : Int) - 48) = (c : Int) - 48 := by rw [IntKind.wrap_u64]; omega
              clear hg ec hd en
              go_wp2_with fail
              go_round
              case rel => exact ⟨i + 1, by omega, by go_num, by rw [HS.out]; go_num⟩
              case measure => simp [intOf]; omega
            · obtain rfl : i = s.size := by omega
              by_cases hb : 4294967295 < M.num (M.bs s) s.size
              · obtain ⟨rfl, rfl⟩ := NO.out 3 (by decide) (M.numE_big HN.out HALL.out (by rw [LEN.out]; exact h10) (by rw [LEN.out]; exact hb))
                go_wp2_with fail
                go_ret2
                exact ⟨rfl, rfl⟩
              · have hE0 := M.numE_ok HN.out HALL.out (by rw [LEN.out]; exact h10) (by rw [LEN.out]; exact hb)
                obtain rfl : E = 0 := by rw [HE.out, hE0]
                have HVV := Lib.hid (show V = M.num (M.bs s) s.size by rw [HV.out]; unfold M.numV; rw [if_pos hE0, LEN.out])
                obtain ⟨n, en⟩ : ∃ n, n = M.num (M.bs s) s.size := ⟨_, rfl⟩
                rw [← en] at hb HVV hnl ⊢
                obtain rfl := HVV.out
                clear hE0 en
                go_wp2_with fail
                go_ret2
                exact ⟨rfl, rfl⟩
end Go.Proofs.YtagdbbikhegoaaaDoor
