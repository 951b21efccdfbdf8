/-
  Tokens: the program's first.
-/
import Derived.OwnWalk
import Derived.Below
import Derived.Test.YtagdbbikhegoaaaDoorKs
namespace Go.Proofs.YtagdbbikhegoaaaDoor
open Go.RowKit
set_option linter.unusedVariables false
set_option maxRecDepth 100000
namespace M
theorem index_all : ∀ c : Fin 256, decide (0 ≤ Lib.indexByte [40, 41, 91, 93, 123, 125, 44, 58, 59, 61, 60, 43, 45, 42, 38, 124, 94, 33] (c.val.toUInt8)) = decide (c.val ∈ singles) := by decide
theorem index_sign {c : Nat} (h : c < 256) : decide (0 ≤ Lib.indexByte [40, 41, 91, 93, 123, 125, 44, 58, 59, 61, 60, 43, 45, 42, 38, 124, 94, 33] c.toUInt8) = decide (c ∈ singles) := index_all ⟨c, h⟩
theorem eq_two {l : List Nat} : ([61, 61] : List Nat).isPrefixOf l = decide (l.getD 0 0 = 61 ∧ (l.drop 1).head? = some 61) := by
  rw [Bool.eq_iff_iff, decide_eq_true_eq, List.isPrefixOf_iff_prefix]
  cases l with
  | nil => simp
  | cons c r =>
    cases r with
    | nil => simp
    | cons d r => simp [eq_comm]
theorem take_one {l : List Nat} (h : 0 < l.length) : l.take 1 = [l.getD 0 0] := by
  cases l with
  | nil => simp at h
  | cons c r => rfl
end M
/-- what first answers -/
def FirstEnd (s : ByteArray) (w : World) (e : Ending) (w' : World) : Prop :=
  (∃ (T : ByteArray), e = .returned (.tuple #[.int .i64 (M.wordL (M.bs s)).2.1, .string T, .int .i64 (M.wordL (M.bs s)).1]) ∧ M.bs T = (M.wordL (M.bs s)).2.2) ∧ Below w.heap.size w w'
theorem first_end {s T : ByteArray} {w : World} {k E : Int} {t : List Nat} {w' : World} (h : M.wordL (M.bs s) = (E, k, t)) (ht : M.bs T = t) (hb : Below w.heap.size w w') : FirstEnd s w (.returned (.tuple #[.int .i64 k, .string T, .int .i64 E])) w' := by
  unfold FirstEnd
  rw [h]
  exact ⟨⟨T, rfl, ht⟩, hb⟩

set_option maxHeartbeats 4000000 in
theorem first_any (s : ByteArray) (w : World) (hs : s.size ≤ 140737488351232) : Calls Tryd.prog 18 #[.string s] w (FirstEnd s w) := by
  have hud : ∀ b : Bool, undef ≠ Value.bool b := fun b h => by cases h
  have hlen := M.bs_len s
  by_cases h0 : s.size = 0
  · have he : s.toList.isEmpty = true := by rw [M.empty_is]; simpa using h0
    have W := Lib.hid (show M.wordL (M.bs s) = (4, 0, []) by rw [List.length_eq_zero_iff.1 (show (M.bs s).length = 0 by omega)]; rfl)
    clear h0 hlen
    go_enter Tryd.func18, Tryd.ntmps18
    go_wp2_with fail
    go_ret3
    exact first_end W.out rfl (Below.refl _ _)
  have he : s.toList.isEmpty = false := by rw [M.empty_is]; simpa using h0
  have hp : 0 < s.size := by omega
  have LEN := Lib.hid hlen
  have hg := M.bs_get s 0 hp
  have hc256 : (M.bs s).getD 0 0 < 256 := M.bs_lt s _ (by
    rw [List.getD_eq_getElem?_getD, List.getElem?_eq_getElem (by omega)]; exact List.getElem_mem _)
  have WL := Lib.hid (M.word_name (s := s) (a := 0) hp)
  have WN := Lib.hid (M.word_num (s := s) (a := 0) hp)
  have WS := Lib.hid (M.word_sign (s := s) (a := 0) hp)
  rw [List.drop_zero] at WL WN WS
  obtain ⟨c, ec⟩ : ∃ c, c = (M.bs s).getD 0 0 := ⟨_, rfl⟩
  rw [← ec] at hg hc256 WL WN WS
  have hgc : ((s[0]'hp).toNat : Int) = (c : Int) := by rw [hg]
  have EC := Lib.hid ec
  have L1 := Lib.hid (isLetter_any c w)
  have D1 := Lib.hid (isDigit_any c w)
  clear hg ec h0 hlen
  cases hl : M.letterB c with
  | true =>
    rw [hl] at L1
    have W := Lib.hid (WL.out hl)
    have PN := Lib.hid (prefix_any class_name s w hs)
    clear hl WL WN WS D1
    go_enter Tryd.func18, Tryd.ntmps18
    go_wp2_with fail
    (with_reducible refine (L1.out).mono ?_)
    rintro e w' ⟨rfl, rfl⟩
    go_wp2_with fail
    (with_reducible refine (PN.out).mono ?_)
    rintro e w' ⟨⟨t, rfl, ht⟩, rfl⟩
    have htl : ((M.bs s).takeWhile M.nameB).length = t.size := by rw [← M.bs_len, ht]
    rw [htl, ← ht] at W
    have HT := Lib.hid ht
    clear ht htl hgc
    by_cases h24 : 24 < t.size
    · rw [if_pos h24] at W
      go_wp2_with fail
      go_ret3
      exact first_end W.out rfl (Below.refl _ _)
    · rw [if_neg h24] at W
      have hd24 : decide ((t.size : Int) > 24) = false := by rw [decide_eq_false_iff_not]; omega
      have hd25 : decide (24 < (t.size : Int)) = false := by rw [decide_eq_false_iff_not]; omega
      go_wp2_with fail
      go_ret3
      exact first_end W.out rfl (Below.refl _ _)
  | false =>
    rw [hl] at L1
    cases hd : M.digitB c with
    | true =>
      rw [hd] at D1
      have W := Lib.hid (WN.out hl hd)
      have PN := Lib.hid (prefix_any class_digit s w hs)
      clear hl hd WL WN WS
      go_enter Tryd.func18, Tryd.ntmps18
      go_wp2_with fail
      (with_reducible refine (L1.out).mono ?_)
      rintro e w' ⟨rfl, rfl⟩
      go_wp2_with fail
      (with_reducible refine (D1.out).mono ?_)
      rintro e w' ⟨rfl, rfl⟩
      go_wp2_with fail
      (with_reducible refine (PN.out).mono ?_)
      rintro e w' ⟨⟨t, rfl, ht⟩, rfl⟩
      rw [← ht] at W
      have hts : t.size ≤ 140737488351232 := by
        have h1 := M.takeWhile_le M.digitB (M.bs s)
        rw [← ht, M.bs_len, M.bs_len] at h1
        omega
      have NU := Lib.hid (tnumber_any t w hts)
      obtain ⟨E, eE⟩ : ∃ E, E = M.numE (M.bs t) := ⟨_, rfl⟩
      obtain ⟨V, eV⟩ : ∃ V, V = M.numV (M.bs t) := ⟨_, rfl⟩
      rw [← eE] at W
      rw [← eE, ← eV] at NU
      clear ht hgc eE eV
      by_cases hE : E = 0
      · subst hE
        rw [if_pos rfl] at W
        go_wp2_with fail
        (with_reducible refine (NU.out).mono ?_)
        rintro e w' ⟨rfl, rfl⟩
        go_wp2_with fail
        go_ret3
        exact first_end W.out rfl (Below.refl _ _)
      · rw [if_neg hE] at W
        have hE1 : (E != 0) = true := by rw [bne_iff_ne]; exact hE
        go_wp2_with fail
        (with_reducible refine (NU.out).mono ?_)
        rintro e w' ⟨rfl, rfl⟩
        go_wp2_with fail
        go_ret3
        exact first_end W.out rfl (Below.refl _ _)
    | false =>
      rw [hd] at D1
      have W := Lib.hid (WS.out hl hd)
      have HP := Lib.hid (show Calls Tryd.prog 26 #[.string s, .string ⟨#[61, 61]⟩] w fun e w' => e = .returned (.bool (([61, 61] : List Nat).isPrefixOf (M.bs s))) ∧ w' = w by
        have h := Tryd.strings_HasPrefix s ⟨#[61, 61]⟩ w
        rw [M.hasPrefix_bs] at h
        exact h)
      rw [M.eq_two, ← EC.out] at HP
      clear hl hd WL WN WS
      unfold M.signOf at W
      rw [Nat.zero_add] at W
      obtain ⟨b, eb⟩ : ∃ b, b = decide (c = 61 ∧ ((M.bs s).drop 1).head? = some 61) := ⟨_, rfl⟩
      rw [← eb] at HP
      cases hb : b with
      | true =>
        rw [hb] at HP
        rw [if_pos (of_decide_eq_true (eb.symm.trans hb))] at W
        clear eb hb
        go_enter Tryd.func18, Tryd.ntmps18
        go_wp2_with fail
        (with_reducible refine (L1.out).mono ?_)
        rintro e w' ⟨rfl, rfl⟩
        go_wp2_with fail
        (with_reducible refine (D1.out).mono ?_)
        rintro e w' ⟨rfl, rfl⟩
        go_wp2_with fail
        (with_reducible refine (HP.out).mono ?_)
        rintro e w' ⟨rfl, rfl⟩
        go_wp2_with fail
        go_ret3
        exact first_end W.out rfl (Below.refl _ _)
      | false =>
        rw [hb] at HP
        rw [if_neg (of_decide_eq_false (eb.symm.trans hb))] at W
        clear eb hb
        have IX := Lib.hid (show Calls Tryd.prog 30 #[.string ⟨#[40, 41, 91, 93, 123, 125, 44, 58, 59, 61, 60, 43, 45, 42, 38, 124, 94, 33]⟩, .int .u8 c] w fun e w' => e = .returned (.int .i64 (Lib.indexByte [40, 41, 91, 93, 123, 125, 44, 58, 59, 61, 60, 43, 45, 42, 38, 124, 94, 33] c.toUInt8)) ∧ w' = w from Tryd.strings_IndexByte ⟨#[40, 41, 91, 93, 123, 125, 44, 58, 59, 61, 60, 43, 45, 42, 38, 124, 94, 33]⟩ c w)
        have hix := M.index_sign hc256
        obtain ⟨v, ev⟩ : ∃ v, v = Lib.indexByte [40, 41, 91, 93, 123, 125, 44, 58, 59, 61, 60, 43, 45, 42, 38, 124, 94, 33] c.toUInt8 := ⟨_, rfl⟩
        rw [← ev] at IX hix
        clear ev
        by_cases hc : c ∈ M.singles
        · rw [if_pos hc] at W
          rw [decide_eq_true hc] at hix
          have hv : 0 ≤ v := of_decide_eq_true hix
          have TO := Lib.hid (show M.bs (s.extract 0 1) = [c] by rw [M.bs_extract _ _ _ (by omega), List.drop_zero, Nat.sub_zero, M.take_one (by rw [LEN.out]; exact hp), ← EC.out])
          clear hc
          go_enter Tryd.func18, Tryd.ntmps18
          go_wp2_with fail
          (with_reducible refine (L1.out).mono ?_)
          rintro e w' ⟨rfl, rfl⟩
          go_wp2_with fail
          (with_reducible refine (D1.out).mono ?_)
          rintro e w' ⟨rfl, rfl⟩
          go_wp2_with fail
          (with_reducible refine (HP.out).mono ?_)
          rintro e w' ⟨rfl, rfl⟩
          go_wp2_with fail
          (with_reducible refine (IX.out).mono ?_)
          rintro e w' ⟨rfl, rfl⟩
          go_wp2_with fail
          go_region
          go_wp2_with fail
          go_ret3
          exact first_end W.out TO.out (Below.refl _ _).drew
        · rw [if_neg hc] at W
          rw [decide_eq_false hc] at hix
          have hv : ¬ 0 ≤ v := of_decide_eq_false hix
          have hv2 : decide (v ≥ 0) = false := hix
          clear hc
          go_enter Tryd.func18, Tryd.ntmps18
          go_wp2_with fail
          (with_reducible refine (L1.out).mono ?_)
          rintro e w' ⟨rfl, rfl⟩
          go_wp2_with fail
          (with_reducible refine (D1.out).mono ?_)
          rintro e w' ⟨rfl, rfl⟩
          go_wp2_with fail
          (with_reducible refine (HP.out).mono ?_)
          rintro e w' ⟨rfl, rfl⟩
          go_wp2_with fail
          (with_reducible refine (IX.out).mono ?_)
          rintro e w' ⟨rfl, rfl⟩
          go_wp2_with fail
          go_ret3
          exact first_end W.out rfl (Below.refl _ _)
end Go.Proofs.YtagdbbikhegoaaaDoor
