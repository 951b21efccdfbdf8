/-
  Tokens: the program's blanks and comments, and the token that a text begins with.
-/
import Derived.Test.YtagdbbikhegoaaaDoorKr
import Derived.Test.YtagdbbikhegoaaaDoorKj
import Derived.Test.YtagdbbikhegoaaaDoorShelf
namespace Go.Proofs.YtagdbbikhegoaaaDoor
open Go.RowKit
set_option linter.unusedVariables false
set_option maxRecDepth 100000
namespace M
theorem drop_takeWhile (f : Nat → Bool) (l : List Nat) : l.drop (l.takeWhile f).length = l.dropWhile f := by
  have h := List.takeWhile_append_dropWhile (p := f) (l := l)
  conv => lhs; rw [← h]
  rw [show ((List.takeWhile f l ++ List.dropWhile f l).takeWhile f).length = (l.takeWhile f).length by rw [h], List.drop_left]
theorem takeWhile_le (f : Nat → Bool) (l : List Nat) : (l.takeWhile f).length ≤ l.length := (List.takeWhile_prefix f).length_le
theorem skip_blanks (l : List Nat) : skipL (l.dropWhile blankB) = skipL l := by
  induction l with
  | nil => rfl
  | cons c r ih =>
    by_cases h : blankB c = true
    · rw [List.dropWhile_cons_of_pos h, ih]
      conv => rhs; rw [skipL, if_pos h]
    · rw [List.dropWhile_cons_of_neg h]
theorem dropWhile_head {f : Nat → Bool} {l : List Nat} {c : Nat} (h : (l.dropWhile f).head? = some c) : f c = false := by
  induction l with
  | nil => cases h
  | cons d r ih =>
    by_cases hd : f d = true
    · rw [List.dropWhile_cons_of_pos hd] at h; exact ih h
    · rw [List.dropWhile_cons_of_neg hd] at h
      cases h
      simpa using hd
theorem skip_two {l : List Nat} (h : ([47, 47] : List Nat).isPrefixOf l = true) : skipL (l.dropWhile fun c => c != 10) = skipL l := by
  rw [List.isPrefixOf_iff_prefix] at h
  obtain ⟨q, rfl⟩ := h
  conv => rhs; rw [List.cons_append, skipL, if_neg (by decide), if_pos ⟨rfl, rfl⟩]
  rfl
theorem skip_stand {l : List Nat} (hb : ∀ c, l.head? = some c → blankB c = false) (h : ([47, 47] : List Nat).isPrefixOf l = false) : skipL l = l := by
  cases l with
  | nil => rw [skipL]
  | cons c r =>
    rw [skipL, if_neg (by rw [hb c rfl]; decide), if_neg]
    rintro ⟨rfl, h2⟩
    cases r with
    | nil => cases h2
    | cons d r =>
      simp only [List.head?_cons, Option.some.injEq] at h2
      subst h2
      simp [List.isPrefixOf] at h
theorem two_len {l : List Nat} (h : ([47, 47] : List Nat).isPrefixOf l = true) : 2 ≤ (l.takeWhile fun c => c != 10).length := by
  rw [List.isPrefixOf_iff_prefix] at h
  obtain ⟨q, rfl⟩ := h
  simp
theorem hasPrefix_bs (s p : ByteArray) : Lib.hasPrefix s.data.toList p.data.toList = (bs p).isPrefixOf (bs s) := by
  unfold Lib.hasPrefix bs
  generalize s.data.toList = a
  generalize p.data.toList = b
  induction b generalizing a with
  | nil => simp
  | cons x b ih =>
    cases a with
    | nil => rfl
    | cons y a =>
      simp only [List.isPrefixOf, List.map_cons]
      rw [ih a]
      congr 1
      rw [Bool.eq_iff_iff, beq_iff_eq, beq_iff_eq]
      exact UInt8.toNat_inj.symm
theorem bs_from (s : ByteArray) (a : Nat) : bs (s.extract a s.size) = (bs s).drop a := by
  rw [bs_extract _ _ _ (Nat.le_refl _), List.take_of_length_le]
  rw [List.length_drop, bs_len]; omega
theorem size_extract (s : ByteArray) (a : Nat) (h : a ≤ s.size) : (s.extract a s.size).size = s.size - a := by
  rw [← bs_len, bs_from, List.length_drop, bs_len]
end M

set_option maxHeartbeats 2000000 in
theorem gap_any (s : ByteArray) (w : World) (hs : s.size ≤ 140737488351232) : Calls Tryd.prog 17 #[.string s] w fun e w' => e = .returned (.int .i64 (M.skipAt (M.bs s) 0 : Nat)) ∧ w = w' := by
  have hud : ∀ b : Bool, undef ≠ Value.bool b := fun b h => by cases h
  have LEN := Lib.hid (M.bs_len s)
  obtain ⟨r, er⟩ : ∃ r, r = M.skipAt (M.bs s) 0 := ⟨_, rfl⟩
  rw [← er]
  have HR := Lib.hid er
  clear er
  have PB := Lib.hid fun (t : ByteArray) (ht : t.size ≤ 140737488351232) => prefix_any class_blank t w ht
  have PL := Lib.hid fun (t : ByteArray) (ht : t.size ≤ 140737488351232) => prefix_any class_line t w ht
  have HP := Lib.hid fun (t : ByteArray) => (show Calls Tryd.prog 26 #[.string t, .string ⟨#[47, 47]⟩] w fun e w' => e = .returned (.bool (([47, 47] : List Nat).isPrefixOf (M.bs t))) ∧ w' = w by
    have h := Tryd.strings_HasPrefix t ⟨#[47, 47]⟩ w
    rw [M.hasPrefix_bs] at h
    exact h)
  go_enter Tryd.func17, Tryd.ntmps17
  go_wp2_with fail
  go_loop [3] (fun ti => ∃ i : Nat, i ≤ s.size ∧ ti = .int .i64 i ∧ M.skipL ((M.bs s).drop i) = M.skipL (M.bs s)) (fun ti => s.size - (intOf ti).toNat)
  case atStart => exact ⟨0, Nat.zero_le _, rfl, rfl⟩
  case round =>
    obtain ⟨i, hi, rfl, hsk⟩ := hrel
    have HS := Lib.hid hsk
    clear hsk
    go_wp2_with fail
    (with_reducible refine (PB.out _ (by rw [M.size_extract s i hi]; omega)).mono ?_)
    rintro e w' ⟨⟨t, rfl, ht⟩, rfl⟩
    have htl : t.size = (((M.bs s).drop i).takeWhile M.blankB).length := by rw [← M.bs_len, ht, M.bs_from]
    have hle : i + t.size ≤ s.size := by
      have := M.takeWhile_le M.blankB ((M.bs s).drop i)
      rw [List.length_drop, LEN.out] at this
      omega
    have HD := Lib.hid (show (M.bs s).drop (i + t.size) = ((M.bs s).drop i).dropWhile M.blankB by rw [← List.drop_drop, htl, M.drop_takeWhile])
    clear ht htl
    go_wp2_with fail
    have H2 := Lib.hid (HP.out (s.extract (i + t.size) s.size))
    rw [M.bs_from] at H2
    cases hp : ([47, 47] : List Nat).isPrefixOf ((M.bs s).drop (i + t.size)) with
    | false =>
      rw [hp] at H2
      obtain rfl : r = i + t.size := by
        rw [HR.out]
        refine M.skipAt_of (by rw [LEN.out]; exact hle) ?_ (M.skip_stand (fun c hc => ?_) hp)
        · rw [HD.out, M.skip_blanks, HS.out]; rfl
        · rw [HD.out] at hc; exact M.dropWhile_head hc
      clear hp
      (with_reducible refine (H2.out).mono ?_)
      rintro e w' ⟨rfl, rfl⟩
      go_wp2_with fail
      go_ret
      exact ⟨by go_num, rfl⟩
    | true =>
      rw [hp] at H2
      have H3 := Lib.hid hp
      clear hp
      (with_reducible refine (H2.out).mono ?_)
      rintro e w' ⟨rfl, rfl⟩
      go_wp2_with fail
      (with_reducible refine (PL.out _ (by rw [M.size_extract s _ hle]; omega)).mono ?_)
      rintro e w' ⟨⟨u, rfl, hu⟩, rfl⟩
      have hul : u.size = (((M.bs s).drop (i + t.size)).takeWhile fun c => c != 10).length := by rw [← M.bs_len, hu, M.bs_from]
      have hle2 : i + t.size + u.size ≤ s.size := by
        have := M.takeWhile_le (fun c => c != 10) ((M.bs s).drop (i + t.size))
        rw [List.length_drop, LEN.out] at this
        omega
      have hu2 : 2 ≤ u.size := by rw [hul]; exact M.two_len H3.out
      have HD2 := Lib.hid (show M.skipL ((M.bs s).drop (i + t.size + u.size)) = M.skipL (M.bs s) by
        rw [← List.drop_drop, hul, M.drop_takeWhile, M.skip_two H3.out, HD.out, M.skip_blanks, HS.out])
      clear hu hul
      go_wp2_with fail
      go_round
      case rel => exact ⟨i + t.size + u.size, hle2, by go_num, HD2.out⟩
      case measure => simp [intOf]; omega
end Go.Proofs.YtagdbbikhegoaaaDoor
