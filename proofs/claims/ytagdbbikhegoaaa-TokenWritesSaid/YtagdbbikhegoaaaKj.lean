/-
  Tokens: the reference's word, where it begins with neither a letter nor a digit.
-/
import Derived.Test.YtagdbbikhegoaaaKi
namespace Go.Proofs.Ytagdbbikhegoaaa
open Go.RowKit
set_option linter.unusedVariables false
set_option maxRecDepth 100000
namespace M
theorem find_at {f : ByteArray → Bool} {l : List ByteArray} {i : Nat} (hi : i < l.length) (h : f (l.getD i ByteArray.empty) = true) (hn : ∀ j, j < i → f (l.getD j ByteArray.empty) = false) : l.find? f = some (l.getD i ByteArray.empty) := by
  induction l generalizing i with
  | nil => simp at hi
  | cons x r ih =>
    cases i with
    | zero =>
      have h' : f x = true := h
      rw [List.find?_cons_of_pos h']; rfl
    | succ i =>
      have h0 : f x = false := hn 0 (by omega)
      rw [List.find?_cons_of_neg (by rw [h0]; decide)]
      exact ih (by simpa using hi) h (fun j hj => hn (j + 1) (by omega))
theorem find_none {f : ByteArray → Bool} {l : List ByteArray} (hn : ∀ j, j < l.length → f (l.getD j ByteArray.empty) = false) : l.find? f = none := by
  induction l with
  | nil => rfl
  | cons x r ih =>
    have h0 : f x = false := hn 0 (by simp)
    rw [List.find?_cons_of_neg (by rw [h0]; decide)]
    exact ih (fun j hj => hn (j + 1) (by simpa using hj))
/-- does the text at a begin with x? -/
def begB (s : ByteArray) (a : Nat) (x : ByteArray) : Bool := decide (x.size ≤ s.size - a ∧ s.extract a (a + x.size) = x)
def signOf (c : Nat) (d : Option Nat) : Int × Int × List Nat := if c = 61 ∧ d = some 61 then (0, 3, [61, 61]) else if c ∈ singles then (0, 3, [c]) else (4, 0, [])
theorem word_sign {s : ByteArray} {a : Nat} (h : a < s.size) (hl : letterB ((bs s).getD a 0) = false) (hd : digitB ((bs s).getD a 0) = false) : wordL ((bs s).drop a) = signOf ((bs s).getD a 0) ((bs s).drop (a + 1)).head? := by
  have e := drop_cons (L := bs s) (i := a) (by rw [bs_len]; exact h)
  rw [e]; unfold wordL signOf
  simp only [hl, hd]
  simp
theorem begB_iff {s : ByteArray} {a : Nat} (x : ByteArray) (h : a < s.size) : begB s a x = (bs x).isPrefixOf ((bs s).drop a) := by
  rw [Bool.eq_iff_iff]
  unfold begB
  rw [decide_eq_true_eq, List.isPrefixOf_iff_prefix, List.prefix_iff_eq_take, bs_len]
  constructor
  · rintro ⟨h1, h2⟩
    have h3 := bs_extract s a (a + x.size) (by omega)
    rw [h2, show a + x.size - a = x.size by omega] at h3
    exact h3
  · intro h2
    have hlen := congrArg List.length h2
    rw [List.length_take, List.length_drop, bs_len, bs_len] at hlen
    have hle : x.size ≤ s.size - a := by omega
    refine ⟨hle, bs_inj ?_⟩
    rw [bs_extract s a (a + x.size) (by omega), show a + x.size - a = x.size by omega]
    exact h2.symm
theorem signs_find {s : ByteArray} {a : Nat} (h : a < s.size) : signOf ((bs s).getD a 0) ((bs s).drop (a + 1)).head? = (match signs8.find? (begB s a) with | some x => (0, 3, bs x) | none => (4, 0, [])) := by
  have e := drop_cons (L := bs s) (i := a) (by rw [bs_len]; exact h)
  have hf : signs8.find? (begB s a) = signs8.find? (fun x => (bs x).isPrefixOf ((bs s).drop a)) := by
    congr 1; funext x; exact begB_iff x h
  rw [hf, e]
  obtain ⟨c, ec⟩ : ∃ c, c = (bs s).getD a 0 := ⟨_, rfl⟩
  obtain ⟨r, er⟩ : ∃ r, r = (bs s).drop (a + 1) := ⟨_, rfl⟩
  rw [← ec, ← er]
  clear e ec er hf
  unfold signOf
  by_cases h1 : c = 61 ∧ r.head? = some 61
  · rw [if_pos h1]
    obtain ⟨rfl, h2⟩ := h1
    cases r with
    | nil => cases h2
    | cons d r =>
      simp only [List.head?_cons, Option.some.injEq] at h2
      subst h2
      rfl
  · rw [if_neg h1]
    have hn : ([61, 61] : List Nat).isPrefixOf (c :: r) = false := by
      cases hh : ([61, 61] : List Nat).isPrefixOf (c :: r) with
      | false => rfl
      | true =>
        rw [List.isPrefixOf_iff_prefix] at hh
        obtain ⟨q, hq⟩ := hh
        simp only [List.cons_append, List.nil_append, List.cons.injEq] at hq
        obtain ⟨rfl, rfl⟩ := hq
        exact absurd ⟨rfl, rfl⟩ h1
    by_cases hc : c ∈ singles
    · rw [if_pos hc]
      simp only [singles, List.mem_cons, List.not_mem_nil, or_false] at hc
      unfold signs8
      rw [List.find?_cons_of_neg (by rw [show bs ⟨#[61, 61]⟩ = [61, 61] from rfl, hn]; decide)]
      rcases hc with rfl | rfl | rfl | rfl | rfl | rfl | rfl | rfl | rfl | rfl | rfl | rfl | rfl | rfl | rfl | rfl | rfl | rfl <;> rfl
    · rw [if_neg hc]
      have : signs8.find? (fun x => (bs x).isPrefixOf (c :: r)) = none := by
        rw [List.find?_eq_none]
        intro x hx hp
        have hx2 : bs x ∈ signs8.map bs := List.mem_map_of_mem hx
        have hs : signB (bs x) = true := by rw [← signB_is]; simpa using hx2
        rcases sign_cases hs with h2 | ⟨d, h2, hd⟩
        · rw [h2, hn] at hp; cases hp
        · rw [h2, List.isPrefixOf_iff_prefix] at hp
          obtain ⟨q, hq⟩ := hp
          simp only [List.cons_append, List.nil_append, List.cons.injEq] at hq
          rw [hq.1] at hd
          exact hc hd
      rw [this]
end M
set_option maxHeartbeats 4000000 in
theorem word_sign_any (s : ByteArray) (a : Nat) (w : World) (hs : s.size ≤ 140737488351232) (ha : a < s.size) (hl : M.letterB ((M.bs s).getD a 0) = false) (hd : M.digitB ((M.bs s).getD a 0) = false) : Calls Try.prog 23 #[.string s, .int .i64 a] w (WordEnd s a w) := by
  have hud : ∀ b : Bool, undef ≠ Value.bool b := fun b h => by cases h
  have LEN := Lib.hid (M.bs_len s)
  have WN := Lib.hid ((M.word_sign ha hl hd).trans (M.signs_find ha))
  have hg := M.bs_get s a ha
  obtain ⟨c, ec⟩ : ∃ c, c = (M.bs s).getD a 0 := ⟨_, rfl⟩
  rw [← ec] at hg hl hd
  have hgc : ((s[a]'ha).toNat : Int) = (c : Int) := by rw [hg]
  have L1 := Lib.hid fun w => rletter_any c w
  have D1 := Lib.hid fun w => rdigit_any c w
  have SG := Lib.hid fun w => signs_any w
  have HB0 := Lib.hid (balloc8 w (.cells #[.int .i64 0, .string ⟨#[]⟩, .int .i64 0] 32))
  rw [hl] at L1
  rw [hd] at D1
  clear hg ec hl hd
  go_enter Try.func23, Try.ntmps23
  go_wp2_with fail
  (with_reducible refine (L1.out _).mono ?_)
  rintro e w' ⟨rfl, rfl⟩
  go_wp2_with fail
  (with_reducible refine (D1.out _).mono ?_)
  rintro e w' ⟨rfl, rfl⟩
  go_wp2_with fail
  clear hgc L1 D1
  (with_reducible refine (SG.out _).mono ?_)
  rintro e w1 ⟨v1, rfl, hv1, hb⟩
  have z0 : w1.cell? ⟨w.heap.size, 0, none⟩ = some (.int .i64 0) := (hb.cell (p := ⟨w.heap.size, 0, none⟩) (by simp)).trans (by simp)
  have z1 : w1.cell? ⟨w.heap.size, 1, none⟩ = some (.string ⟨#[]⟩) := (hb.cell (p := ⟨w.heap.size, 1, none⟩) (by simp)).trans (by simp)
  have z2 : w1.cell? ⟨w.heap.size, 2, none⟩ = some (.int .i64 0) := (hb.cell (p := ⟨w.heap.size, 2, none⟩) (by simp)).trans (by simp)
  have y0 : w1.frozen? ⟨w.heap.size, 0, none⟩ = false := (hb.frozen (p := ⟨w.heap.size, 0, none⟩) (by simp)).trans (by simp)
  have y1 : w1.frozen? ⟨w.heap.size, 1, none⟩ = false := (hb.frozen (p := ⟨w.heap.size, 1, none⟩) (by simp)).trans (by simp)
  have y2 : w1.frozen? ⟨w.heap.size, 2, none⟩ = false := (hb.frozen (p := ⟨w.heap.size, 2, none⟩) (by simp)).trans (by simp)
  have HB1 := Lib.hid (bnext8 HB0.out hb)
  obtain ⟨-, A, cap, rfl, hcell⟩ := hv1
  obtain ⟨b, off, rfl, hcell⟩ := hcell (by decide)
  have HC := Lib.hid hcell
  clear hcell hb
  simp only [show signs8.length = 19 from rfl]
  go_wp2_with fail
  go_loop [89] (fun ti => ∃ i : Nat, i ≤ 19 ∧ ti = .int .i64 i ∧ (∀ j, j < i → M.begB s a (signs8.getD j ByteArray.empty) = false)) (fun ti => 19 - (intOf ti).toNat)
  case atStart => exact ⟨0, by omega, rfl, fun j hj => absurd hj (by omega)⟩
  case round =>
    obtain ⟨i, hi, rfl, hall⟩ := hrel
    have HA := Lib.hid hall
    clear hall
    by_cases hlt : i < 19
    · have hx := (show ∀ i, i < signs8.length → w1.cell? ⟨b, off + i, none⟩ = some (.string (signs8.getD i ByteArray.empty)) by obtain ⟨b', off', e, h⟩ := HC.out (by decide); simp only [Option.some.injEq, Addr.mk.injEq] at e; obtain ⟨rfl, rfl, -⟩ := e; exact h) i hlt
      obtain ⟨x, ex⟩ : ∃ x, x = signs8.getD i ByteArray.empty := ⟨_, rfl⟩
      rw [← ex] at hx
      have EX := Lib.hid ex
      have hxs : x.size ≤ 2 := by rw [ex]; exact (show ∀ i : Fin 19, (signs8.getD i.1 ByteArray.empty).size ≤ 2 by decide) ⟨i, hlt⟩
      clear ex
      by_cases hle : x.size ≤ s.size - a
      · have hd1 : (x.size : Int) ≤ (s.size : Int) - (a : Int) := by omega
        have hI : ((a : Int) + (x.size : Int)).toNat = a + x.size := by omega
        by_cases heq : s.extract a (a + x.size) = x
        · have hq : ((s.extract a (a + x.size)).toList == x.toList) = true := by rw [heq]; simp
          have HF := Lib.hid (show signs8.find? (M.begB s a) = some x by rw [EX.out]; exact M.find_at hlt (by rw [← EX.out]; unfold M.begB; rw [decide_eq_true_eq]; exact ⟨hle, heq⟩) HA.out)
          have HW := Lib.hid (show M.wordL ((M.bs s).drop a) = (0, 3, M.bs x) by rw [WN.out, HF.out])
          clear heq hle
          go_wp2_with fail
          exact bodyPost_ret (v := .tuple #[.agg #[.int .i64 3, .string x, .int .i64 a], .int .i64 0]) (by simp [results, Try.results23, go_sem, z0, z1, z2]) rfl (word_end HW.out rfl (by simp) (((HB1.out.setCell (by simp) _).setCell (by simp) _).setCell (by simp) _))
        · have hq := M.str_ne heq
          have HNO := Lib.hid (show M.begB s a (signs8.getD i ByteArray.empty) = false by rw [← EX.out]; unfold M.begB; rw [decide_eq_false_iff_not]; exact fun h => heq h.2)
          clear heq hle
          go_wp2_with fail
          go_round
          case rel => exact ⟨i + 1, by omega, by go_num, fun j hj => by
            rcases (show j < i ∨ j = i by omega) with h | rfl
            · exact HA.out j h
            · exact HNO.out⟩
          case measure => simp [intOf]; omega
      · have hd1 : ¬ (x.size : Int) ≤ (s.size : Int) - (a : Int) := by omega
        have HNO := Lib.hid (show M.begB s a (signs8.getD i ByteArray.empty) = false by rw [← EX.out]; unfold M.begB; rw [decide_eq_false_iff_not]; exact fun h => hle h.1)
        clear hle
        go_wp2_with fail
        go_round
        case rel => exact ⟨i + 1, by omega, by go_num, fun j hj => by
          rcases (show j < i ∨ j = i by omega) with h | rfl
          · exact HA.out j h
          · exact HNO.out⟩
        case measure => simp [intOf]; omega
    · obtain rfl : i = 19 := by omega
      have HW := Lib.hid (show M.wordL ((M.bs s).drop a) = (4, 0, []) by rw [WN.out, M.find_none (fun j hj => HA.out j hj)])
      go_wp2_with fail
      exact bodyPost_ret (v := .tuple #[.agg #[.int .i64 0, .string ⟨#[]⟩, .int .i64 0], .int .i64 4]) (by simp [results, Try.results23, go_sem, z0, z1, z2]) rfl (word_end HW.out rfl (by simp) (by first | exact HB1.out | exact (((HB1.out.setCell (by simp) _).setCell (by simp) _).setCell (by simp) _)))
theorem word_any (s : ByteArray) (a : Nat) (w : World) (hs : s.size ≤ 140737488351232) (ha : a < s.size) : Calls Try.prog 23 #[.string s, .int .i64 a] w (WordEnd s a w) := by
  cases hl : M.letterB ((M.bs s).getD a 0) with
  | true => exact word_name_any s a w hs ha hl
  | false =>
    cases hd : M.digitB ((M.bs s).getD a 0) with
    | true => exact word_num_any s a w hs ha hl hd
    | false => exact word_sign_any s a w hs ha hl hd
end Go.Proofs.Ytagdbbikhegoaaa
