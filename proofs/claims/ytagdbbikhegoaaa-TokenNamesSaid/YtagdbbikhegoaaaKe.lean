/-
  Tokens: the reference's Skip.
-/
import Derived.Test.YtagdbbikhegoaaaKc
namespace Go.Proofs.Ytagdbbikhegoaaa
open Go.RowKit
set_option linter.unusedVariables false
set_option maxRecDepth 100000
namespace M
theorem drop_cons {L : List Nat} {i : Nat} (h : i < L.length) : L.drop i = L.getD i 0 :: L.drop (i + 1) := by
  rw [List.drop_eq_getElem_cons h, List.getD_eq_getElem?_getD, List.getElem?_eq_getElem h]; rfl
theorem skipL_suffix (l : List Nat) : skipL l <:+ l := by
  fun_induction skipL l with
  | case1 => exact List.suffix_refl _
  | case2 c r h ih => exact ih.trans (List.suffix_cons c r)
  | case3 c r h h2 ih => exact (ih.trans (List.dropWhile_suffix _)).trans (List.suffix_cons c r)
  | case4 c r h h2 => exact List.suffix_refl _
/-- the offset behind blanks and comments -/
def skipAt (L : List Nat) (i : Nat) : Nat := L.length - (skipL (L.drop i)).length
theorem drop_skipAt (L : List Nat) (i : Nat) : L.drop (skipAt L i) = skipL (L.drop i) :=
  (List.suffix_iff_eq_drop.1 ((skipL_suffix (L.drop i)).trans (List.drop_suffix i L))).symm
theorem skipAt_le (L : List Nat) (i : Nat) : skipAt L i ≤ L.length := Nat.sub_le _ _
theorem skipAt_ge (L : List Nat) (i : Nat) (h : i ≤ L.length) : i ≤ skipAt L i := by
  have := (skipL_suffix (L.drop i)).length_le
  rw [List.length_drop] at this
  unfold skipAt; omega
theorem skipAt_of {L : List Nat} {i j : Nat} (hj : j ≤ L.length) (h : skipL (L.drop j) = skipL (L.drop i)) (h2 : skipL (L.drop j) = L.drop j) : skipAt L i = j := by
  unfold skipAt
  rw [← h, h2, List.length_drop]; omega
theorem skip_end (L : List Nat) : skipL (L.drop L.length) = L.drop L.length := by rw [List.drop_length, skipL]
theorem skip_blank {L : List Nat} {i : Nat} (h : i < L.length) (hb : blankB (L.getD i 0) = true) : skipL (L.drop (i + 1)) = skipL (L.drop i) := by
  rw [drop_cons h]
  conv => rhs; rw [skipL, if_pos hb]
theorem lineOf {L : List Nat} {i : Nat} (h : i < L.length) (hb : L.getD i 0 ≠ 10) : (L.drop (i + 1)).dropWhile (fun c => c != 10) = (L.drop i).dropWhile (fun c => c != 10) := by
  rw [drop_cons h, List.dropWhile_cons_of_pos (by simpa using hb)]
theorem lineEnd {L : List Nat} {i : Nat} (h : ¬ (i < L.length ∧ L.getD i 0 ≠ 10)) : (L.drop i).dropWhile (fun c => c != 10) = L.drop i := by
  by_cases hi : i < L.length
  · have h10 : L.getD i 0 = 10 := by
      by_cases e : L.getD i 0 = 10
      · exact e
      · exact absurd ⟨hi, e⟩ h
    rw [drop_cons hi, List.dropWhile_cons_of_neg (by rw [h10]; decide)]
  · rw [List.drop_eq_nil_of_le (by omega)]; rfl
theorem skip_comment {L : List Nat} {i j : Nat} (h : i < L.length) (h1 : i + 1 < L.length) (hb : L.getD i 0 = 47) (hc : L.getD (i + 1) 0 = 47) (hl : (L.drop j).dropWhile (fun c => c != 10) = (L.drop i).dropWhile (fun c => c != 10)) (he : (L.drop j).dropWhile (fun c => c != 10) = L.drop j) : skipL (L.drop j) = skipL (L.drop i) := by
  have hn : blankB (L.getD i 0) = false := by rw [hb]; decide
  conv => rhs; rw [drop_cons h, skipL, if_neg (by rw [hn]; decide), if_pos ⟨hb, by rw [drop_cons h1, hc]; rfl⟩, lineOf h (by omega), ← hl, he]
theorem skip_stop {L : List Nat} {i : Nat} (h : i < L.length) (hb : blankB (L.getD i 0) = false) (hc : ¬ (L.getD i 0 = 47 ∧ i + 1 < L.length ∧ L.getD (i + 1) 0 = 47)) : skipL (L.drop i) = L.drop i := by
  rw [drop_cons h, skipL, if_neg (by rw [hb]; decide), if_neg]
  rintro ⟨h1, h2⟩
  by_cases h3 : i + 1 < L.length
  · rw [drop_cons h3] at h2
    exact hc ⟨h1, h3, by simpa using h2⟩
  · rw [List.drop_eq_nil_of_le (by omega)] at h2
    cases h2
end M

set_option maxHeartbeats 2000000 in
theorem rskip_any (s : ByteArray) (a : Nat) (w : World) (hs : s.size ≤ 140737488351232) (ha : a ≤ s.size) : Calls Try.prog 20 #[.string s, .int .i64 a] w fun e w' => e = .returned (.int .i64 (M.skipAt (M.bs s) a : Nat)) ∧ w = w' := by
  have hud : ∀ b : Bool, undef ≠ Value.bool b := fun b h => by cases h
  have LEN := Lib.hid (M.bs_len s)
  obtain ⟨r, er⟩ : ∃ r, r = M.skipAt (M.bs s) a := ⟨_, rfl⟩
  rw [← er]
  have HR := Lib.hid er
  clear er
  go_enter Try.func20, Try.ntmps20
  go_wp2_with fail
  go_loop [1] (fun ti => ∃ i : Nat, i ≤ s.size ∧ ti = .int .i64 i ∧ M.skipL ((M.bs s).drop i) = M.skipL ((M.bs s).drop a)) (fun ti => s.size - (intOf ti).toNat)
  case atStart => exact ⟨a, ha, rfl, rfl⟩
  case round =>
    obtain ⟨i, hi, rfl, hsk⟩ := hrel
    have HS := Lib.hid hsk
    clear hsk
    by_cases hlt : i < s.size
    · have hg := M.bs_get s i hlt
      obtain ⟨c, ec⟩ : ∃ c, c = (M.bs s).getD i 0 := ⟨_, rfl⟩
      rw [← ec] at hg
      have hgc : ((s[i]'hlt).toNat : Int) = (c : Int) := by rw [hg]
      have EC := Lib.hid ec
      have B1 := Lib.hid (rblank_any c w)
      clear hg ec
      cases hb : M.blankB c with
      | true =>
        rw [hb] at B1
        have HB := Lib.hid hb
        clear hb
        go_wp2_with fail
        (with_reducible refine (B1.out).mono ?_)
        rintro e w' ⟨rfl, rfl⟩
        go_wp2_with fail
        go_round
        case rel => exact ⟨i + 1, by omega, by go_num, (M.skip_blank (by rw [LEN.out]; exact hlt) (by rw [← EC.out]; exact HB.out)).trans HS.out⟩
        case measure => simp [intOf]; omega
      | false =>
        rw [hb] at B1
        have HB := Lib.hid hb
        clear hb
        by_cases h47 : c = 47
        · have hq : ((c : Int) == 47) = true := by simp [h47]
          have H47 := Lib.hid h47
          clear h47
          by_cases hlt1 : i + 1 < s.size
          · have hg := M.bs_get s (i + 1) hlt1
            obtain ⟨d, ed⟩ : ∃ d, d = (M.bs s).getD (i + 1) 0 := ⟨_, rfl⟩
            rw [← ed] at hg
            have hgd : ((s[i + 1]'hlt1).toNat : Int) = (d : Int) := by rw [hg]
            have ED := Lib.hid ed
            clear hg ed
            by_cases d47 : d = 47
            · have hq2 : ((d : Int) == 47) = true := by simp [d47]
              have D47 := Lib.hid d47
              clear d47
              go_wp2_with fail
              (with_reducible refine (B1.out).mono ?_)
              rintro e w' ⟨rfl, rfl⟩
              go_wp2_with fail
              go_loop [1] (fun ti => ∃ j : Nat, i ≤ j ∧ j ≤ s.size ∧ ti = .int .i64 j ∧ ((M.bs s).drop j).dropWhile (fun c => c != 10) = ((M.bs s).drop i).dropWhile (fun c => c != 10)) (fun ti => s.size - (intOf ti).toNat)
              case atStart => exact ⟨i, Nat.le_refl _, by omega, rfl, rfl⟩
              case round =>
                obtain ⟨j, hij, hj, rfl, hln⟩ := hrel
                have HN := Lib.hid hln
                clear hln hgc hgd
                by_cases hjl : j < s.size
                · have hg := M.bs_get s j hjl
                  obtain ⟨f, ef⟩ : ∃ f, f = (M.bs s).getD j 0 := ⟨_, rfl⟩
                  rw [← ef] at hg
                  have hgf : ((s[j]'hjl).toNat : Int) = (f : Int) := by rw [hg]
                  have EF := Lib.hid ef
                  clear hg ef
                  by_cases h10 : f = 10
                  · have hq3 : ((f : Int) != 10) = false := by simp [h10]
                    have HJ := Lib.hid (show j ≠ i from fun e => by have h1 := EC.out; have h2 := EF.out; rw [e, ← h1, H47.out] at h2; omega)
                    have HEND := Lib.hid (M.lineEnd (L := M.bs s) (i := j) (by rw [← EF.out]; exact fun h => h.2 h10))
                    clear h10
                    go_wp2_with fail
                    go_round
                    case rel => exact ⟨j, by omega, by go_num, (M.skip_comment (by rw [LEN.out]; exact hlt) (by rw [LEN.out]; exact hlt1) (by rw [← EC.out]; exact H47.out) (by rw [← ED.out]; exact D47.out) HN.out HEND.out).trans HS.out⟩
                    case measure => have := HJ.out; simp [intOf]; omega
                  · have hq3 : ((f : Int) != 10) = true := by rw [bne_iff_ne]; omega
                    have H10 := Lib.hid h10
                    clear h10
                    go_wp2_with fail
                    go_round
                    case rel => exact ⟨j + 1, by omega, by omega, by go_num, (M.lineOf (by rw [LEN.out]; exact hjl) (by rw [← EF.out]; exact H10.out)).trans HN.out⟩
                    case measure => simp [intOf]; omega
                · have HEND := Lib.hid (M.lineEnd (L := M.bs s) (i := j) (by rw [LEN.out]; exact fun h => hjl h.1))
                  go_wp2_with fail
                  go_round
                  case rel => exact ⟨j, by omega, by go_num, (M.skip_comment (by rw [LEN.out]; exact hlt) (by rw [LEN.out]; exact hlt1) (by rw [← EC.out]; exact H47.out) (by rw [← ED.out]; exact D47.out) HN.out HEND.out).trans HS.out⟩
                  case measure => simp [intOf]; omega
            · have hq2 : ((d : Int) == 47) = false := by rw [beq_eq_false_iff_ne]; omega
              obtain rfl : r = i := by rw [HR.out]; exact M.skipAt_of (by rw [LEN.out]; omega) HS.out (M.skip_stop (by rw [LEN.out]; exact hlt) (by rw [← EC.out]; exact HB.out) (by rw [← ED.out]; exact fun h => d47 h.2.2))
              clear d47
              go_wp2_with fail
              (with_reducible refine (B1.out).mono ?_)
              rintro e w' ⟨rfl, rfl⟩
              go_wp2_with fail
              go_ret
              exact ⟨rfl, rfl⟩
          · obtain rfl : r = i := by rw [HR.out]; exact M.skipAt_of (by rw [LEN.out]; omega) HS.out (M.skip_stop (by rw [LEN.out]; exact hlt) (by rw [← EC.out]; exact HB.out) (by rw [LEN.out]; exact fun h => hlt1 h.2.1))
            have hlt2 : decide ((r : Int) + 1 < (s.size : Int)) = false := by rw [decide_eq_false_iff_not]; omega
            go_wp2_with fail
            (with_reducible refine (B1.out).mono ?_)
            rintro e w' ⟨rfl, rfl⟩
            go_wp2_with fail
            go_ret
            exact ⟨rfl, rfl⟩
        · have hq : ((c : Int) == 47) = false := by rw [beq_eq_false_iff_ne]; omega
          obtain rfl : r = i := by rw [HR.out]; exact M.skipAt_of (by rw [LEN.out]; omega) HS.out (M.skip_stop (by rw [LEN.out]; exact hlt) (by rw [← EC.out]; exact HB.out) (by rw [← EC.out]; exact fun h => h47 h.1))
          clear h47
          go_wp2_with fail
          (with_reducible refine (B1.out).mono ?_)
          rintro e w' ⟨rfl, rfl⟩
          go_wp2_with fail
          go_ret
          exact ⟨rfl, rfl⟩
    · obtain rfl : i = s.size := by omega
      obtain rfl : r = s.size := by rw [HR.out]; exact M.skipAt_of (by rw [LEN.out]; omega) HS.out (by have := M.skip_end (M.bs s); rwa [LEN.out] at this)
      go_wp2_with fail
      go_ret
      exact ⟨rfl, rfl⟩
end Go.Proofs.Ytagdbbikhegoaaa
