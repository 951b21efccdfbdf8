/-
  Tokens: the reference's Check.
-/
import Derived.Test.YtagdbbikhegoaaaKd
import Derived.Test.YtagdbbikhegoaaaKf
import Derived.Deep.RegionHeld3
namespace Go.Proofs.Ytagdbbikhegoaaa
open Go.RowKit
set_option linter.unusedVariables false
set_option maxRecDepth 100000
namespace M
/-- the error of a token -/
def tokE (k : Int) (t : List Nat) (a : Int) : Int := if tokB k t = true ∧ 0 ≤ a then 0 else 4
theorem tokE_no {k : Int} {t : List Nat} {a : Int} (h : tokB k t = false) : tokE k t a = 4 := by unfold tokE; rw [if_neg (by rw [h]; simp)]
theorem tokE_neg {k : Int} {t : List Nat} {a : Int} (h : a < 0) : tokE k t a = 4 := by unfold tokE; rw [if_neg (by omega)]
theorem tokE_ok {k : Int} {t : List Nat} {a : Int} (h : tokB k t = true) (h2 : 0 ≤ a) : tokE k t a = 0 := by unfold tokE; rw [if_pos ⟨h, h2⟩]
theorem tokB_name (t : List Nat) : tokB 1 t = isName t := by simp [tokB]
theorem tokB_num (t : List Nat) : tokB 2 t = decide (numE t = 0) := by simp [tokB]
theorem tokB_sign (t : List Nat) : tokB 3 t = signB t := by simp [tokB]
theorem tokB_else {k : Int} (t : List Nat) (h1 : k ≠ 1) (h2 : k ≠ 2) (h3 : k ≠ 3) : tokB k t = false := by simp [tokB, h1, h2, h3]
end M
theorem bnext8 {W w1 w2 : World} (h1 : Below W.heap.size W w1) (h2 : Below w1.heap.size w1 w2) : Below W.heap.size W w2 := h1.trans (h2.mono h1.size)
theorem balloc8 (W : World) (o : Obj) : Below W.heap.size W (W.alloc o) := (Below.refl _ _).alloc (Nat.le_refl _) _
set_option maxHeartbeats 4000000 in
theorem rcheckT_any (k : Int) (s : ByteArray) (a : Int) (w : World) (hs : s.size ≤ 140737488351232) (hk1 : -9223372036854775808 ≤ k) (hk2 : k ≤ 9223372036854775807) (ha1 : -9223372036854775808 ≤ a) (ha2 : a ≤ 9223372036854775807) : Calls Try.prog 15 #[.agg #[.int .i64 k, .string s, .int .i64 a]] w fun e w' => e = .returned (.int .i64 (M.tokE k (M.bs s) a)) ∧ Below w.heap.size w w' := by
  have hud : ∀ b : Bool, undef ≠ Value.bool b := fun b h => by cases h
  have NA := Lib.hid fun w => risName_any s w hs
  have NU := Lib.hid fun w => rnumber_any s w hs
  have SG := Lib.hid fun w => signs_any w
  have AM := Lib.hid fun w v (h : StrS w v signs8) => (show Calls Try.prog 27 #[v, .string s] w fun e w' => e = .returned (.bool (decide (M.bs s ∈ signs8.map M.bs))) ∧ w = w' from among_any v signs8 s w h)
  rw [M.signB_is] at AM
  obtain ⟨E, eE⟩ : ∃ E, E = M.tokE k (M.bs s) a := ⟨_, rfl⟩
  rw [← eE]
  have HB0 := Lib.hid (balloc8 w (.cells #[.int .i64 k, .string s, .int .i64 a] 32))
  by_cases h1 : k = 1
  · subst h1
    obtain ⟨r, er⟩ : ∃ r, r = M.isName (M.bs s) := ⟨_, rfl⟩
    rw [← er] at NA
    cases hr : r with
    | false =>
      obtain rfl : E = 4 := by rw [eE]; exact M.tokE_no (by rw [M.tokB_name, ← er, hr])
      rw [hr] at NA
      clear eE er hr
      go_enter Try.func15, Try.ntmps15
      go_wp2_with fail
      (with_reducible refine (NA.out _).mono ?_)
      rintro e w' ⟨rfl, rfl⟩
      go_wp2_with fail
      go_ret
      exact ⟨rfl, HB0.out⟩
    | true =>
      rw [hr] at NA
      by_cases hneg : a < 0
      · obtain rfl : E = 4 := by rw [eE]; exact M.tokE_neg hneg
        clear eE er hr
        go_enter Try.func15, Try.ntmps15
        go_wp2_with fail
        (with_reducible refine (NA.out _).mono ?_)
        rintro e w' ⟨rfl, rfl⟩
        go_wp2_with fail
        go_ret
        exact ⟨rfl, HB0.out⟩
      · obtain rfl : E = 0 := by rw [eE]; exact M.tokE_ok (by rw [M.tokB_name, ← er, hr]) (by omega)
        clear eE er hr
        go_enter Try.func15, Try.ntmps15
        go_wp2_with fail
        (with_reducible refine (NA.out _).mono ?_)
        rintro e w' ⟨rfl, rfl⟩
        go_wp2_with fail
        go_ret
        exact ⟨rfl, HB0.out⟩
  by_cases h2 : k = 2
  · subst h2
    obtain ⟨r, er⟩ : ∃ r, r = decide (M.numE (M.bs s) = 0) := ⟨_, rfl⟩
    obtain ⟨V, eV⟩ : ∃ V, V = M.numV (M.bs s) := ⟨_, rfl⟩
    obtain ⟨G, eG⟩ : ∃ G, G = M.numE (M.bs s) := ⟨_, rfl⟩
    rw [← eV, ← eG] at NU
    have hG : (G == 0) = r := by rw [er, eG]; rfl
    clear h1 eV eG
    cases hr : r with
    | false =>
      obtain rfl : E = 4 := by rw [eE]; exact M.tokE_no (by rw [M.tokB_num, ← er, hr])
      rw [hr] at hG
      clear eE er hr
      go_enter Try.func15, Try.ntmps15
      go_wp2_with fail
      (with_reducible refine (NU.out _).mono ?_)
      rintro e w' ⟨rfl, rfl⟩
      go_wp2_with fail
      go_ret
      exact ⟨rfl, HB0.out⟩
    | true =>
      rw [hr] at hG
      by_cases hneg : a < 0
      · obtain rfl : E = 4 := by rw [eE]; exact M.tokE_neg hneg
        clear eE er hr
        go_enter Try.func15, Try.ntmps15
        go_wp2_with fail
        (with_reducible refine (NU.out _).mono ?_)
        rintro e w' ⟨rfl, rfl⟩
        go_wp2_with fail
        go_ret
        exact ⟨rfl, HB0.out⟩
      · obtain rfl : E = 0 := by rw [eE]; exact M.tokE_ok (by rw [M.tokB_num, ← er, hr]) (by omega)
        clear eE er hr
        go_enter Try.func15, Try.ntmps15
        go_wp2_with fail
        (with_reducible refine (NU.out _).mono ?_)
        rintro e w' ⟨rfl, rfl⟩
        go_wp2_with fail
        go_ret
        exact ⟨rfl, HB0.out⟩
  by_cases h3 : k = 3
  · subst h3
    obtain ⟨r, er⟩ : ∃ r, r = M.signB (M.bs s) := ⟨_, rfl⟩
    rw [← er] at AM
    clear h1 h2
    cases hr : r with
    | false =>
      obtain rfl : E = 4 := by rw [eE]; exact M.tokE_no (by rw [M.tokB_sign, ← er, hr])
      rw [hr] at AM
      clear eE er hr
      go_enter Try.func15, Try.ntmps15
      go_wp2_with fail
      go_region_held3 (fun w' => w'.cell? ⟨w.heap.size, 1, none⟩ = some (.string s) ∧ w'.cell? ⟨w.heap.size, 2, none⟩ = some (.int .i64 a))
        (first | exact ⟨x1, x2⟩ | exact ⟨by simp, by simp⟩ | go_keep)
        (first | (go_at_call 28; (with_reducible refine (SG.out _).mono ?_); rintro e w1 ⟨v1, rfl, hv1, hb⟩; have x1 : w1.cell? ⟨w.heap.size, 1, none⟩ = some (.string s) := (hb.cell (p := ⟨w.heap.size, 1, none⟩) (by simp)).trans (by simp); have x2 : w1.cell? ⟨w.heap.size, 2, none⟩ = some (.int .i64 a) := (hb.cell (p := ⟨w.heap.size, 2, none⟩) (by simp)).trans (by simp)) | (go_at_call 27; (with_reducible refine (AM.out _ _ hv1).mono ?_); rintro e w' ⟨rfl, rfl⟩))
      have HB1 := Lib.hid (bnext8 HB0.out.drew hb)
      clear hb hv1
      go_wp2_with fail
      go_ret
      exact ⟨rfl, HB1.out⟩
    | true =>
      rw [hr] at AM
      by_cases hneg : a < 0
      · obtain rfl : E = 4 := by rw [eE]; exact M.tokE_neg hneg
        clear eE er hr
        go_enter Try.func15, Try.ntmps15
        go_wp2_with fail
        go_region_held3 (fun w' => w'.cell? ⟨w.heap.size, 1, none⟩ = some (.string s) ∧ w'.cell? ⟨w.heap.size, 2, none⟩ = some (.int .i64 a))
          (first | exact ⟨x1, x2⟩ | exact ⟨by simp, by simp⟩ | go_keep)
          (first | (go_at_call 28; (with_reducible refine (SG.out _).mono ?_); rintro e w1 ⟨v1, rfl, hv1, hb⟩; have x1 : w1.cell? ⟨w.heap.size, 1, none⟩ = some (.string s) := (hb.cell (p := ⟨w.heap.size, 1, none⟩) (by simp)).trans (by simp); have x2 : w1.cell? ⟨w.heap.size, 2, none⟩ = some (.int .i64 a) := (hb.cell (p := ⟨w.heap.size, 2, none⟩) (by simp)).trans (by simp)) | (go_at_call 27; (with_reducible refine (AM.out _ _ hv1).mono ?_); rintro e w' ⟨rfl, rfl⟩))
        have HB1 := Lib.hid (bnext8 HB0.out.drew hb)
        clear hb hv1
        go_wp2_with fail
        go_ret
        exact ⟨rfl, HB1.out⟩
      · obtain rfl : E = 0 := by rw [eE]; exact M.tokE_ok (by rw [M.tokB_sign, ← er, hr]) (by omega)
        clear eE er hr
        go_enter Try.func15, Try.ntmps15
        go_wp2_with fail
        go_region_held3 (fun w' => w'.cell? ⟨w.heap.size, 1, none⟩ = some (.string s) ∧ w'.cell? ⟨w.heap.size, 2, none⟩ = some (.int .i64 a))
          (first | exact ⟨x1, x2⟩ | exact ⟨by simp, by simp⟩ | go_keep)
          (first | (go_at_call 28; (with_reducible refine (SG.out _).mono ?_); rintro e w1 ⟨v1, rfl, hv1, hb⟩; have x1 : w1.cell? ⟨w.heap.size, 1, none⟩ = some (.string s) := (hb.cell (p := ⟨w.heap.size, 1, none⟩) (by simp)).trans (by simp); have x2 : w1.cell? ⟨w.heap.size, 2, none⟩ = some (.int .i64 a) := (hb.cell (p := ⟨w.heap.size, 2, none⟩) (by simp)).trans (by simp)) | (go_at_call 27; (with_reducible refine (AM.out _ _ hv1).mono ?_); rintro e w' ⟨rfl, rfl⟩))
        have HB1 := Lib.hid (bnext8 HB0.out.drew hb)
        clear hb hv1
        go_wp2_with fail
        go_ret
        exact ⟨rfl, HB1.out⟩
  obtain rfl : E = 4 := by rw [eE]; exact M.tokE_no (M.tokB_else _ h1 h2 h3)
  have k1 : (k == 1) = false := by rw [beq_eq_false_iff_ne]; exact h1
  have k2 : (k == 2) = false := by rw [beq_eq_false_iff_ne]; exact h2
  have k3 : (k == 3) = false := by rw [beq_eq_false_iff_ne]; exact h3
  clear eE h1 h2 h3
  go_enter Try.func15, Try.ntmps15
  go_wp2_with fail
  go_ret
  exact ⟨rfl, HB0.out⟩
end Go.Proofs.Ytagdbbikhegoaaa
