/-
  Tokens: the reference's word, where it begins with a digit.
-/
import Derived.Test.YtagdbbikhegoaaaKh
namespace Go.Proofs.Ytagdbbikhegoaaa
open Go.RowKit
set_option linter.unusedVariables false
set_option maxRecDepth 100000
set_option maxHeartbeats 4000000 in
theorem word_num_any (s : ByteArray) (a : Nat) (w : World) (hs : s.size ≤ 140737488351232) (ha : a < s.size) (hl : M.letterB ((M.bs s).getD a 0) = false) (hd : M.digitB ((M.bs s).getD a 0) = true) : Calls Try.prog 23 #[.string s, .int .i64 a] w (WordEnd s a w) := by
  have hud : ∀ b : Bool, undef ≠ Value.bool b := fun b h => by cases h
  have LEN := Lib.hid (M.bs_len s)
  have WN := Lib.hid (M.word_num ha hl hd)
  have hg := M.bs_get s a ha
  obtain ⟨c, ec⟩ : ∃ c, c = (M.bs s).getD a 0 := ⟨_, rfl⟩
  rw [← ec] at hg hl hd
  have hgc : ((s[a]'ha).toNat : Int) = (c : Int) := by rw [hg]
  have L1 := Lib.hid fun w => rletter_any c w
  have D1 := Lib.hid fun w => rdigit_any c w
  rw [hl] at L1
  rw [hd] at D1
  clear hg ec hl hd
  go_enter Try.func23, Try.ntmps23
  go_wp2_with fail
  (with_reducible refine (L1.out _).mono ?_)
  rintro e w' ⟨rfl, rfl⟩
  go_wp2_with fail
  (with_reducible refine (D1.out _).mono ?_)
  rintro e w' ⟨rfl, rfl⟩
  go_wp2_with fail
  clear hgc L1 D1
  go_loop [6] (fun tj => ∃ j : Nat, a ≤ j ∧ j ≤ s.size ∧ tj = .int .i64 j ∧ (∀ i, a ≤ i → i < j → M.digitB ((M.bs s).getD i 0) = true)) (fun tj => s.size - (intOf tj).toNat)
  case atStart => exact ⟨a, Nat.le_refl _, by omega, rfl, fun i h1 h2 => absurd h2 (by omega)⟩
  case round =>
    obtain ⟨j, haj, hj, rfl, hall⟩ := hrel
    have HA := Lib.hid hall
    clear hall
    by_cases hlt : j < s.size
    · have hg := M.bs_get s j hlt
      obtain ⟨c, ec⟩ : ∃ c, c = (M.bs s).getD j 0 := ⟨_, rfl⟩
      rw [← ec] at hg
      have hgc : ((s[j]'hlt).toNat : Int) = (c : Int) := by rw [hg]
      have EC := Lib.hid ec
      have D1 := Lib.hid fun w => rdigit_any c w
      clear hg ec
      cases hd : M.digitB c with
      | true =>
        rw [hd] at D1
        have HN := Lib.hid hd
        clear hd
        go_wp2_with fail
        (with_reducible refine (D1.out _).mono ?_)
        rintro e w' ⟨rfl, rfl⟩
        go_wp2_with fail
        go_round
        case rel => exact ⟨j + 1, by omega, by omega, by go_num, fun i h1 h2 => by
          rcases (show i < j ∨ i = j by omega) with h | rfl
          · exact HA.out i h1 h
          · rw [← EC.out]; exact HN.out⟩
        case measure => simp [intOf]; omega
      | false =>
        rw [hd] at D1
        have HN := Lib.hid hd
        clear hd
        have HT := Lib.hid (M.run_of (f := M.digitB) haj hj HA.out (fun _ => by rw [← EC.out]; exact HN.out))
        have hxs : (s.extract a j).size ≤ 140737488351232 := by have := M.bs_len (s.extract a j); have h2 := M.bs_extract_len s haj hj; omega
        have NU := Lib.hid fun w => rnumber_any (s.extract a j) w hxs
        clear hxs
        obtain ⟨G, eG⟩ : ∃ G, G = M.numE (M.bs (s.extract a j)) := ⟨_, rfl⟩
        obtain ⟨V, eV⟩ : ∃ V, V = M.numV (M.bs (s.extract a j)) := ⟨_, rfl⟩
        rw [← eG, ← eV] at NU
        clear eV
        by_cases hG : G = 0
        · have HW := Lib.hid (show M.wordL ((M.bs s).drop a) = (0, 2, M.bs (s.extract a j)) by rw [WN.out, HT.out, ← eG, if_pos hG])
          clear eG
          subst hG
          go_wp2_with fail
          (with_reducible refine (D1.out _).mono ?_)
          rintro e w' ⟨rfl, rfl⟩
          go_wp2_with fail
          (with_reducible refine (NU.out _).mono ?_)
          rintro e w' ⟨rfl, rfl⟩
          go_wp2_with fail
          exact bodyPost_ret (v := .tuple #[.agg #[.int .i64 2, .string (s.extract a j), .int .i64 a], .int .i64 0]) (by simp [results, Try.results23, go_sem]) rfl (word_end HW.out rfl (by simp) (by first | exact (balloc8 _ _) | exact ((balloc8 _ _).setCell (by simp) _)))
        · have HW := Lib.hid (show M.wordL ((M.bs s).drop a) = (G, 0, []) by rw [WN.out, HT.out, ← eG, if_neg hG])
          have hgb : (G != 0) = true := by rw [bne_iff_ne]; exact hG
          have HG := Lib.hid hG
          clear eG hG
          go_wp2_with fail
          (with_reducible refine (D1.out _).mono ?_)
          rintro e w' ⟨rfl, rfl⟩
          go_wp2_with fail
          (with_reducible refine (NU.out _).mono ?_)
          rintro e w' ⟨rfl, rfl⟩
          go_wp2_with fail
          exact bodyPost_ret (v := .tuple #[.agg #[.int .i64 0, .string ⟨#[]⟩, .int .i64 0], .int .i64 G]) (by simp [results, Try.results23, go_sem]) rfl (word_end HW.out rfl (by rw [if_neg HG.out]) (by first | exact (balloc8 _ _) | exact ((balloc8 _ _).setCell (by simp) _)))
    · obtain rfl : j = s.size := by omega
      have HT := Lib.hid (M.run_of (f := M.digitB) haj hj HA.out (fun h => absurd h (by omega)))
      have hxs : (s.extract a s.size).size ≤ 140737488351232 := by have := M.bs_len (s.extract a s.size); have h2 := M.bs_extract_len s haj hj; omega
      have NU := Lib.hid fun w => rnumber_any (s.extract a s.size) w hxs
      clear hxs
      obtain ⟨G, eG⟩ : ∃ G, G = M.numE (M.bs (s.extract a s.size)) := ⟨_, rfl⟩
      obtain ⟨V, eV⟩ : ∃ V, V = M.numV (M.bs (s.extract a s.size)) := ⟨_, rfl⟩
      rw [← eG, ← eV] at NU
      clear eV
      by_cases hG : G = 0
      · have HW := Lib.hid (show M.wordL ((M.bs s).drop a) = (0, 2, M.bs (s.extract a s.size)) by rw [WN.out, HT.out, ← eG, if_pos hG])
        clear eG
        subst hG
        go_wp2_with fail
        (with_reducible refine (NU.out _).mono ?_)
        rintro e w' ⟨rfl, rfl⟩
        go_wp2_with fail
        exact bodyPost_ret (v := .tuple #[.agg #[.int .i64 2, .string (s.extract a s.size), .int .i64 a], .int .i64 0]) (by simp [results, Try.results23, go_sem]) rfl (word_end HW.out rfl (by simp) (by first | exact (balloc8 _ _) | exact ((balloc8 _ _).setCell (by simp) _)))
      · have HW := Lib.hid (show M.wordL ((M.bs s).drop a) = (G, 0, []) by rw [WN.out, HT.out, ← eG, if_neg hG])
        have hgb : (G != 0) = true := by rw [bne_iff_ne]; exact hG
        have HG := Lib.hid hG
        clear eG hG
        go_wp2_with fail
        (with_reducible refine (NU.out _).mono ?_)
        rintro e w' ⟨rfl, rfl⟩
        go_wp2_with fail
        exact bodyPost_ret (v := .tuple #[.agg #[.int .i64 0, .string ⟨#[]⟩, .int .i64 0], .int .i64 G]) (by simp [results, Try.results23, go_sem]) rfl (word_end HW.out rfl (by rw [if_neg HG.out]) (by first | exact (balloc8 _ _) | exact ((balloc8 _ _).setCell (by simp) _)))
end Go.Proofs.Ytagdbbikhegoaaa
