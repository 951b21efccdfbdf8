/-
  Tokens: the program's isToken, Check and IsName.
-/
import Derived.Test.YtagdbbikhegoaaaDoorKt
import Derived.Test.YtagdbbikhegoaaaDoorKg
namespace Go.Proofs.YtagdbbikhegoaaaDoor
open Go.RowKit
set_option linter.unusedVariables false
set_option maxRecDepth 100000
namespace M
theorem tok_word (k : Int) (l : List Nat) : tokB k l = decide ((wordL l).1 = 0 ∧ (wordL l).2.1 = k ∧ (wordL l).2.2 = l) := by
  rw [Bool.eq_iff_iff, decide_eq_true_eq]
  constructor
  · intro h
    have h2 := word_of (rest := []) h (.inl rfl)
    rw [List.append_nil] at h2
    rw [h2]
    exact ⟨rfl, rfl, rfl⟩
  · rintro ⟨h1, h2, h3⟩
    have h4 : wordL l = (0, k, l) := Prod.ext h1 (Prod.ext h2 h3)
    exact (word_tok h4).1
end M
set_option maxHeartbeats 2000000 in
theorem isToken_any (k : Int) (s : ByteArray) (w : World) (hs : s.size ≤ 140737488351232) : Calls Tryd.prog 31 #[.int .i64 k, .string s] w fun e w' => e = .returned (.bool (M.tokB k (M.bs s))) ∧ Below w.heap.size w w' := by
  have hud : ∀ b : Bool, undef ≠ Value.bool b := fun b h => by cases h
  have FI := Lib.hid (first_any s w hs)
  obtain ⟨r, er⟩ : ∃ r, r = M.tokB k (M.bs s) := ⟨_, rfl⟩
  rw [← er]
  rw [M.tok_word] at er
  unfold FirstEnd at FI
  obtain ⟨E, eE⟩ : ∃ E, E = (M.wordL (M.bs s)).1 := ⟨_, rfl⟩
  obtain ⟨K, eK⟩ : ∃ K, K = (M.wordL (M.bs s)).2.1 := ⟨_, rfl⟩
  obtain ⟨L, eL⟩ : ∃ L, L = (M.wordL (M.bs s)).2.2 := ⟨_, rfl⟩
  rw [← eE, ← eK, ← eL] at FI er
  clear eE eK eL
  have HR := Lib.hid er
  clear er
  go_enter Tryd.func31, Tryd.ntmps31
  go_wp2_with fail
  (with_reducible refine (FI.out).mono ?_)
  rintro e w' ⟨⟨T, rfl, hT⟩, hb⟩
  have HB := Lib.hid hb
  have HT := Lib.hid hT
  clear hb hT
  by_cases h1 : E = 0
  · by_cases h2 : K = k
    · by_cases h3 : T = s
      · obtain rfl : r = true := by rw [HR.out, decide_eq_true_eq]; exact ⟨h1, h2, by rw [← HT.out, h3]⟩
        subst h1 h2 h3
        go_wp2_with fail
        go_ret
        exact ⟨rfl, HB.out⟩
      · obtain rfl : r = false := by rw [HR.out, decide_eq_false_iff_not]; exact fun h => h3 (M.bs_inj (HT.out.trans h.2.2))
        have hq := M.str_ne h3
        subst h1 h2
        go_wp2_with fail
        go_ret
        exact ⟨rfl, HB.out⟩
    · obtain rfl : r = false := by rw [HR.out, decide_eq_false_iff_not]; exact fun h => h2 h.2.1
      have hq : (K == k) = false := by rw [beq_eq_false_iff_ne]; exact h2
      subst h1
      go_wp2_with fail
      go_ret
      exact ⟨rfl, HB.out⟩
  · obtain rfl : r = false := by rw [HR.out, decide_eq_false_iff_not]; exact fun h => h1 h.1
    have hq : (E == 0) = false := by rw [beq_eq_false_iff_ne]; exact h1
    go_wp2_with fail
    go_ret
    exact ⟨rfl, HB.out⟩

set_option maxHeartbeats 2000000 in
theorem checkT_any (k : Int) (s : ByteArray) (a : Int) (w : World) (hs : s.size ≤ 140737488351232) : Calls Tryd.prog 19 #[.agg #[.int .i64 k, .string s, .int .i64 a]] w fun e w' => e = .returned (.int .i64 (M.tokE k (M.bs s) a)) ∧ Below w.heap.size w w' := by
  have hud : ∀ b : Bool, undef ≠ Value.bool b := fun b h => by cases h
  have IT := Lib.hid fun w => isToken_any k s w hs
  obtain ⟨E, eE⟩ : ∃ E, E = M.tokE k (M.bs s) a := ⟨_, rfl⟩
  rw [← eE]
  have HB0 := Lib.hid (balloc8 w (.cells #[.int .i64 k, .string s, .int .i64 a] 39))
  by_cases hneg : a < 0
  · obtain rfl : E = 4 := by rw [eE]; exact M.tokE_neg hneg
    clear eE
    have hd : decide (a < 0) = true := decide_eq_true hneg
    go_enter Tryd.func19, Tryd.ntmps19
    go_wp2_with fail
    --PEEK
    go_ret
    exact ⟨rfl, HB0.out⟩
  · have hd : decide (a < 0) = false := decide_eq_false hneg
    obtain ⟨r, er⟩ : ∃ r, r = M.tokB k (M.bs s) := ⟨_, rfl⟩
    rw [← er] at IT
    cases hr : r with
    | false =>
      obtain rfl : E = 4 := by rw [eE]; exact M.tokE_no (by rw [← er, hr])
      rw [hr] at IT
      clear eE er hr
      go_enter Tryd.func19, Tryd.ntmps19
      go_wp2_with fail
      (with_reducible refine (IT.out _).mono ?_)
      rintro e w' ⟨rfl, hb⟩
      have HB := Lib.hid (bnext8 HB0.out hb)
      clear hb
      go_wp2_with fail
      go_ret
      exact ⟨rfl, HB.out⟩
    | true =>
      obtain rfl : E = 0 := by rw [eE]; exact M.tokE_ok (by rw [← er, hr]) (by omega)
      rw [hr] at IT
      clear eE er hr
      go_enter Tryd.func19, Tryd.ntmps19
      go_wp2_with fail
      (with_reducible refine (IT.out _).mono ?_)
      rintro e w' ⟨rfl, hb⟩
      have HB := Lib.hid (bnext8 HB0.out hb)
      clear hb
      go_wp2_with fail
      go_ret
      exact ⟨rfl, HB.out⟩
end Go.Proofs.YtagdbbikhegoaaaDoor
