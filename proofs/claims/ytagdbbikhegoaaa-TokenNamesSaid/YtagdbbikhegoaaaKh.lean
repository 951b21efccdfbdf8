/-
  Tokens: the reference's word.
-/
import Derived.Test.YtagdbbikhegoaaaKg
import Derived.Test.YtagdbbikhegoaaaKe
namespace Go.Proofs.Ytagdbbikhegoaaa
open Go.RowKit
set_option linter.unusedVariables false
set_option maxRecDepth 100000
namespace M
theorem takeWhile_of {f : Nat → Bool} : ∀ {l : List Nat} {n : Nat}, (∀ i, i < n → f (l.getD i 0) = true) → n ≤ l.length → (n < l.length → f (l.getD n 0) = false) → l.takeWhile f = l.take n
  | [], n, _, h, _ => by simp at h; subst h; rfl
  | c :: r, 0, _, _, h => by
    have := h (by simp)
    simp at this
    simp [this]
  | c :: r, n + 1, h1, h2, h3 => by
    have h0 : f c = true := h1 0 (by omega)
    rw [List.takeWhile_cons_of_pos h0, List.take_succ_cons, takeWhile_of (fun i hi => h1 (i + 1) (by omega)) (by simpa using h2) (fun h => h3 (by simpa using h))]
theorem getD_drop (L : List Nat) (a i : Nat) : (L.drop a).getD i 0 = L.getD (a + i) 0 := by
  rw [List.getD_eq_getElem?_getD, List.getElem?_drop, ← List.getD_eq_getElem?_getD]
/-- the run of bytes from a to b is a token's text -/
theorem run_of {f : Nat → Bool} {s : ByteArray} {a b : Nat} (hab : a ≤ b) (hb : b ≤ s.size) (h : ∀ i, a ≤ i → i < b → f ((bs s).getD i 0) = true) (he : b < s.size → f ((bs s).getD b 0) = false) : ((bs s).drop a).takeWhile f = bs (s.extract a b) := by
  rw [bs_extract s a b hb]
  refine takeWhile_of (fun i hi => ?_) ?_ (fun hlt => ?_)
  · rw [getD_drop]; exact h _ (by omega) (by omega)
  · rw [List.length_drop, bs_len]; omega
  · rw [List.length_drop, bs_len] at hlt
    rw [getD_drop, show a + (b - a) = b by omega]
    exact he (by omega)
theorem bs_extract_len (s : ByteArray) {a b : Nat} (hab : a ≤ b) (hb : b ≤ s.size) : (bs (s.extract a b)).length = b - a := by
  rw [bs_extract s a b hb, List.length_take, List.length_drop, bs_len]; omega
theorem word_name {s : ByteArray} {a : Nat} (h : a < s.size) (hl : letterB ((bs s).getD a 0) = true) : wordL ((bs s).drop a) = (if 24 < (((bs s).drop a).takeWhile nameB).length then (3, 0, []) else (0, 1, ((bs s).drop a).takeWhile nameB)) := by
  have e := drop_cons (L := bs s) (i := a) (by rw [bs_len]; exact h)
  conv => lhs; rw [e]; unfold wordL
  simp only [hl, if_true]
  rw [← e]
theorem word_num {s : ByteArray} {a : Nat} (h : a < s.size) (hl : letterB ((bs s).getD a 0) = false) (hd : digitB ((bs s).getD a 0) = true) : wordL ((bs s).drop a) = (if numE (((bs s).drop a).takeWhile digitB) = 0 then (0, 2, ((bs s).drop a).takeWhile digitB) else (numE (((bs s).drop a).takeWhile digitB), 0, [])) := by
  have e := drop_cons (L := bs s) (i := a) (by rw [bs_len]; exact h)
  conv => lhs; rw [e]; unfold wordL
  simp only [hl, hd, if_true]
  rw [← e]
  simp
end M
/-- what word answers -/
def WordEnd (s : ByteArray) (a : Nat) (w : World) (e : Ending) (w' : World) : Prop :=
  ∃ (T : ByteArray), e = .returned (.tuple #[.agg #[.int .i64 (M.wordL ((M.bs s).drop a)).2.1, .string T, .int .i64 (if (M.wordL ((M.bs s).drop a)).1 = 0 then (a : Int) else 0)], .int .i64 (M.wordL ((M.bs s).drop a)).1]) ∧ M.bs T = (M.wordL ((M.bs s).drop a)).2.2 ∧ Below w.heap.size w w'
theorem word_end {s T : ByteArray} {a : Nat} {w w' : World} {k A E : Int} {t : List Nat} (h : M.wordL ((M.bs s).drop a) = (E, k, t)) (ht : M.bs T = t) (hA : A = if E = 0 then (a : Int) else 0) (hb : Below w.heap.size w w') : WordEnd s a w (.returned (.tuple #[.agg #[.int .i64 k, .string T, .int .i64 A], .int .i64 E])) w' := by
  unfold WordEnd
  rw [h]
  subst hA
  exact ⟨T, rfl, ht, hb⟩
set_option maxHeartbeats 4000000 in
theorem word_name_any (s : ByteArray) (a : Nat) (w : World) (hs : s.size ≤ 140737488351232) (ha : a < s.size) (hl : M.letterB ((M.bs s).getD a 0) = true) : Calls Try.prog 23 #[.string s, .int .i64 a] w (WordEnd s a w) := by
  have hud : ∀ b : Bool, undef ≠ Value.bool b := fun b h => by cases h
  have LEN := Lib.hid (M.bs_len s)
  have WN := Lib.hid (M.word_name ha hl)
  have hg := M.bs_get s a ha
  obtain ⟨c, ec⟩ : ∃ c, c = (M.bs s).getD a 0 := ⟨_, rfl⟩
  rw [← ec] at hg hl
  have hgc : ((s[a]'ha).toNat : Int) = (c : Int) := by rw [hg]
  have EC := Lib.hid ec
  have L1 := Lib.hid fun w => rletter_any c w
  rw [hl] at L1
  clear hg ec hl
  go_enter Try.func23, Try.ntmps23
  go_wp2_with fail
  (with_reducible refine (L1.out _).mono ?_)
  rintro e w' ⟨rfl, rfl⟩
  go_wp2_with fail
  clear hgc L1
  -- LOOP
  go_loop [6] (fun tj => ∃ j : Nat, a ≤ j ∧ j ≤ s.size ∧ tj = .int .i64 j ∧ (∀ i, a ≤ i → i < j → M.nameB ((M.bs s).getD i 0) = true)) (fun tj => s.size - (intOf tj).toNat)
  case atStart => exact ⟨a, Nat.le_refl _, by omega, rfl, fun i h1 h2 => absurd h2 (by omega)⟩
  case round =>
    obtain ⟨j, haj, hj, rfl, hall⟩ := hrel
    have HA := Lib.hid hall
    clear hall
    by_cases hlt : j < s.size
    · have hg := M.bs_get s j hlt
      obtain ⟨c, ec⟩ : ∃ c, c = (M.bs s).getD j 0 := ⟨_, rfl⟩
      rw [← ec] at hg
      have hgc : ((s[j]'hlt).toNat : Int) = (c : Int) := by rw [hg]
      have EC := Lib.hid ec
      have L1 := Lib.hid fun w => rletter_any c w
      have D1 := Lib.hid fun w => rdigit_any c w
      clear hg ec
      cases hl : M.letterB c with
      | true =>
        rw [hl] at L1
        have HN := Lib.hid (show M.nameB c = true by unfold M.nameB; rw [hl]; rfl)
        clear hl
        go_wp2_with fail
        (with_reducible refine (L1.out _).mono ?_)
        rintro e w' ⟨rfl, rfl⟩
        go_wp2_with fail
        go_round
        case rel => exact ⟨j + 1, by omega, by omega, by go_num, fun i h1 h2 => by
          rcases (show i < j ∨ i = j by omega) with h | rfl
          · exact HA.out i h1 h
          · rw [← EC.out]; exact HN.out⟩
        case measure => simp [intOf]; omega
      | false =>
        rw [hl] at L1
        cases hd : M.digitB c with
        | true =>
          rw [hd] at D1
          have HN := Lib.hid (show M.nameB c = true by unfold M.nameB; rw [hl, hd]; rfl)
          clear hl hd
          go_wp2_with fail
          (with_reducible refine (L1.out _).mono ?_)
          rintro e w' ⟨rfl, rfl⟩
          go_wp2_with fail
          (with_reducible refine (D1.out _).mono ?_)
          rintro e w' ⟨rfl, rfl⟩
          go_wp2_with fail
          go_round
          case rel => exact ⟨j + 1, by omega, by omega, by go_num, fun i h1 h2 => by
            rcases (show i < j ∨ i = j by omega) with h | rfl
            · exact HA.out i h1 h
            · rw [← EC.out]; exact HN.out⟩
          case measure => simp [intOf]; omega
        | false =>
          rw [hd] at D1
          by_cases h95 : c = 95
          · have HN := Lib.hid (show M.nameB c = true by rw [h95]; decide)
            have hb : ((c : Int) == 95) = true := by simp [h95]
            clear hl hd h95
            go_wp2_with fail
            (with_reducible refine (L1.out _).mono ?_)
            rintro e w' ⟨rfl, rfl⟩
            go_wp2_with fail
            (with_reducible refine (D1.out _).mono ?_)
            rintro e w' ⟨rfl, rfl⟩
            go_wp2_with fail
            go_round
            case rel => exact ⟨j + 1, by omega, by omega, by go_num, fun i h1 h2 => by
              rcases (show i < j ∨ i = j by omega) with h | rfl
              · exact HA.out i h1 h
              · rw [← EC.out]; exact HN.out⟩
            case measure => simp [intOf]; omega
          · have hb : ((c : Int) == 95) = false := by rw [beq_eq_false_iff_ne]; omega
            have HN := Lib.hid (show M.nameB c = false by unfold M.nameB; rw [hl, hd]; simpa using h95)
            clear hl hd h95
            have HT := Lib.hid (M.run_of (f := M.nameB) haj hj HA.out (fun _ => by rw [← EC.out]; exact HN.out))
            have hxl := M.bs_extract_len s haj hj
            have HX := Lib.hid hxl
            clear hxl
            by_cases h24 : 24 < j - a
            · have HW := Lib.hid (show M.wordL ((M.bs s).drop a) = (3, 0, []) by rw [WN.out, HT.out, HX.out, if_pos h24])
              have hd24 : 24 < (j : Int) - (a : Int) := by omega
              clear h24
              go_wp2_with fail
              (with_reducible refine (L1.out _).mono ?_)
              rintro e w' ⟨rfl, rfl⟩
              go_wp2_with fail
              (with_reducible refine (D1.out _).mono ?_)
              rintro e w' ⟨rfl, rfl⟩
              go_wp2_with fail
              exact bodyPost_ret (v := .tuple #[.agg #[.int .i64 0, .string ⟨#[]⟩, .int .i64 0], .int .i64 3]) (by simp [results, Try.results23, go_sem]) rfl (word_end HW.out rfl (by simp) (by first | exact (balloc8 _ _) | exact ((balloc8 _ _).setCell (by simp) _)))
            · have HW := Lib.hid (show M.wordL ((M.bs s).drop a) = (0, 1, M.bs (s.extract a j)) by rw [WN.out, HT.out, HX.out, if_neg h24])
              have hd24 : (j : Int) - (a : Int) ≤ 24 := by omega
              clear h24
              go_wp2_with fail
              (with_reducible refine (L1.out _).mono ?_)
              rintro e w' ⟨rfl, rfl⟩
              go_wp2_with fail
              (with_reducible refine (D1.out _).mono ?_)
              rintro e w' ⟨rfl, rfl⟩
              go_wp2_with fail
              exact bodyPost_ret (v := .tuple #[.agg #[.int .i64 1, .string (s.extract a j), .int .i64 a], .int .i64 0]) (by simp [results, Try.results23, go_sem]) rfl (word_end HW.out rfl (by simp) (by first | exact (balloc8 _ _) | exact ((balloc8 _ _).setCell (by simp) _)))
    · obtain rfl : j = s.size := by omega
      have HT := Lib.hid (M.run_of (f := M.nameB) haj hj HA.out (fun h => absurd h (by omega) /- size -/))
      have hxl := M.bs_extract_len s haj hj
      have HX := Lib.hid hxl
      clear hxl
      by_cases h24 : 24 < s.size - a
      · have HW := Lib.hid (show M.wordL ((M.bs s).drop a) = (3, 0, []) by rw [WN.out, HT.out, HX.out, if_pos h24])
        have hd24 : 24 < (s.size : Int) - (a : Int) := by omega
        clear h24
        go_wp2_with fail
        exact bodyPost_ret (v := .tuple #[.agg #[.int .i64 0, .string ⟨#[]⟩, .int .i64 0], .int .i64 3]) (by simp [results, Try.results23, go_sem]) rfl (word_end HW.out rfl (by simp) (by first | exact (balloc8 _ _) | exact ((balloc8 _ _).setCell (by simp) _)))
      · have HW := Lib.hid (show M.wordL ((M.bs s).drop a) = (0, 1, M.bs (s.extract a s.size)) by rw [WN.out, HT.out, HX.out, if_neg h24])
        have hd24 : (s.size : Int) - (a : Int) ≤ 24 := by omega
        clear h24
        go_wp2_with fail
        exact bodyPost_ret (v := .tuple #[.agg #[.int .i64 1, .string (s.extract a s.size), .int .i64 a], .int .i64 0]) (by simp [results, Try.results23, go_sem]) rfl (word_end HW.out rfl (by simp) (by first | exact (balloc8 _ _) | exact ((balloc8 _ _).setCell (by simp) _)))
end Go.Proofs.Ytagdbbikhegoaaa
