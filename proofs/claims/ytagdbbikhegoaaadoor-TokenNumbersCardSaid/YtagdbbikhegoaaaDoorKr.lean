/-
  Tokens: the program's Number.
-/
import Derived.Test.YtagdbbikhegoaaaDoorKq
import Derived.Test.YtagdbbikhegoaaaDoorKd
import Derived.Test.YtagdbbikhegoaaaDoorKf
namespace Go.Proofs.YtagdbbikhegoaaaDoor
open Go.RowKit
set_option linter.unusedVariables false
set_option maxRecDepth 100000
namespace M
theorem takeWhile_self {f : Nat → Bool} {l : List Nat} : l.takeWhile f = l ↔ ∀ j, j < l.length → f (l.getD j 0) = true := by
  rw [← all_getD]
  constructor
  · intro h; have := all_takeWhile (f := f) l; rwa [h] at this
  · intro h
    have := takeWhile_all (rest := []) h (fun c hc => by cases hc)
    rwa [List.append_nil] at this
theorem numE_notall {l : List Nat} (h : l.takeWhile digitB ≠ l) : numE l = 4 := by
  have h1 : l.all digitB = false := by
    cases e : l.all digitB with
    | false => rfl
    | true =>
      have := takeWhile_all (rest := []) e (fun c hc => by cases hc)
      rw [List.append_nil] at this
      exact absurd this h
  unfold numE
  rw [if_pos (.inr h1)]
end M
set_option maxHeartbeats 2000000 in
theorem tnumber_any (s : ByteArray) (w : World) (hs : s.size ≤ 140737488351232) : Calls Tryd.prog 5 #[.string s] w fun e w' => e = .returned (.tuple #[.int .u64 (M.numV (M.bs s) : Nat), .int .i64 (M.numE (M.bs s))]) ∧ w = w' := by
  have hud : ∀ b : Bool, undef ≠ Value.bool b := fun b h => by cases h
  have hlen := M.bs_len s
  have LEN := Lib.hid hlen
  obtain ⟨E, eE⟩ : ∃ E, E = M.numE (M.bs s) := ⟨_, rfl⟩
  obtain ⟨V, eV⟩ : ∃ V, V = M.numV (M.bs s) := ⟨_, rfl⟩
  rw [← eE, ← eV]
  have HE := Lib.hid eE
  have HV := Lib.hid eV
  have NO := Lib.hid (show ∀ c : Int, c ≠ 0 → M.numE (M.bs s) = c → E = c ∧ V = 0 from fun c h0 h => ⟨by rw [eE, h], by rw [eV]; exact M.numV_no (by rw [h]; exact h0)⟩)
  have PF := Lib.hid (prefix_any class_digit s w hs)
  clear eE eV
  by_cases h0 : s.size = 0
  · obtain ⟨rfl, rfl⟩ := NO.out 4 (by decide) (M.numE_empty (List.length_eq_zero_iff.1 (by omega)))
    have he : s.toList.isEmpty = true := by rw [M.empty_is]; simpa using h0
    clear hlen h0
    go_enter Tryd.func5, Tryd.ntmps5
    go_wp2_with fail
    go_ret2
    exact ⟨rfl, rfl⟩
  · have he : s.toList.isEmpty = false := by rw [M.empty_is]; simpa using h0
    have HN := Lib.hid (show M.bs s ≠ [] from fun e => h0 (by rw [← hlen, e]; rfl))
    clear hlen h0
    go_enter Tryd.func5, Tryd.ntmps5
    go_wp2_with fail
    (with_reducible refine (PF.out).mono ?_)
    rintro e w' ⟨⟨t, rfl, ht⟩, rfl⟩
    by_cases hts : t = s
    case neg =>
      have hq := M.str_ne hts
      obtain ⟨rfl, rfl⟩ := NO.out 4 (by decide) (M.numE_notall (fun h => hts (M.bs_inj (ht.trans h))))
      go_wp2_with fail
      go_ret2
      exact ⟨rfl, rfl⟩
    case pos =>
      subst hts
      have HALL := Lib.hid (M.takeWhile_self.1 ht.symm)
      clear ht
      by_cases h10 : 10 < t.size
      · obtain ⟨rfl, rfl⟩ := NO.out 3 (by decide) (M.numE_long HN.out HALL.out (by rw [LEN.out]; exact h10))
        go_wp2_with fail
        go_ret2
        exact ⟨rfl, rfl⟩
      · have h10' : t.size ≤ 10 := by omega
        have hd10 : decide ((t.size : Int) > 10) = false := by rw [decide_eq_false_iff_not]; omega
        have hd11 : decide (10 < (t.size : Int)) = false := by rw [decide_eq_false_iff_not]; omega
        go_wp2_with fail
        go_loop [4, 19] (fun tn ti => ∃ i : Nat, i ≤ t.size ∧ ti = .int .i64 i ∧ tn = .int .u64 (M.num (M.bs t) i : Nat)) (fun _ ti => t.size - (intOf ti).toNat)
        case atStart => exact ⟨0, by omega, rfl, rfl⟩
        case round =>
          obtain ⟨i, hi, rfl, rfl⟩ := hrel
          have hnl := M.num_small (l := M.bs t) (k := i) (by omega) (fun j hj => HALL.out j (by rw [LEN.out]; omega))
          by_cases hlt : i < t.size
          · have hg := M.bs_get t i hlt
            obtain ⟨c, ec⟩ : ∃ c, c = (M.bs t).getD i 0 := ⟨_, rfl⟩
            rw [← ec] at hg
            have hgc : ((t[i]'hlt).toNat : Int) = (c : Int) := by rw [hg]
            have hd := HALL.out i (by rw [LEN.out]; exact hlt)
            rw [← ec] at hd
            unfold M.digitB at hd
            rw [decide_eq_true_eq] at hd
            have hd1 := hd.1
            have hd2 := hd.2
            have HS := Lib.hid (show M.num (M.bs t) (i + 1) = 10 * M.num (M.bs t) i + (c - 48) by rw [ec]; rfl)
            obtain ⟨n, en⟩ : ∃ n, n = M.num (M.bs t) i := ⟨_, rfl⟩
            rw [← en] at hnl HS ⊢
            have hw1 : IntKind.u64.wrap (10 * (n : Int)) = 10 * (n : Int) := by rw [IntKind.wrap_u64]; omega
            have hw2 : IntKind.u8.wrap ((c : Int) - 48) = (c : Int) - 48 := by rw [IntKind.wrap_u8]; omega
            have hw3 : IntKind.u64.wrap (10 * (n : Int) + ((c : Int) - 48)) = 10 * (n : Int) + ((c : Int) - 48) := by rw [IntKind.wrap_u64]; omega
            have hw4 : IntKind.u64.wrap ((c : Int) - 48) = (c : Int) - 48 := by rw [IntKind.wrap_u64]; omega
            clear hg ec hd en
            go_wp2_with fail
            go_round
            case rel => exact ⟨i + 1, by omega, by go_num, by rw [HS.out]; go_num⟩
            case measure => simp [intOf]; omega
          · obtain rfl : i = t.size := by omega
            by_cases hb : 4294967295 < M.num (M.bs t) t.size
            · obtain ⟨rfl, rfl⟩ := NO.out 3 (by decide) (M.numE_big HN.out HALL.out (by rw [LEN.out]; exact h10) (by rw [LEN.out]; exact hb))
              go_wp2_with fail
              go_ret2
              exact ⟨rfl, rfl⟩
            · have hE0 := M.numE_ok HN.out HALL.out (by rw [LEN.out]; exact h10) (by rw [LEN.out]; exact hb)
              obtain rfl : E = 0 := by rw [HE.out, hE0]
              have HVV := Lib.hid (show V = M.num (M.bs t) t.size by rw [HV.out]; unfold M.numV; rw [if_pos hE0, LEN.out])
              obtain ⟨n, en⟩ : ∃ n, n = M.num (M.bs t) t.size := ⟨_, rfl⟩
              rw [← en] at hb HVV hnl ⊢
              obtain rfl := HVV.out
              clear hE0 en
              go_wp2_with fail
              go_ret2
              exact ⟨rfl, rfl⟩
end Go.Proofs.YtagdbbikhegoaaaDoor
