/-
  Package pair of the program: Join, with its refusals.
-/
import Derived.Test.YtglehjcohdjhoaaPp9
namespace Go.Proofs.Ytglehjcohdjhoaa
open Go.RowKit
set_option linter.unusedVariables false
set_option maxRecDepth 100000

/-- what Join refuses before it looks for a pair -/
def M.joinC (p : Nat) (t : Int) (xs : List Nat) (rows : List (List Nat)) : Int := if M.bnd p t = 0 then (if M.rowsE p xs rows = 0 then (if xs.length < t.toNat + 1 then 11 else 0) else M.rowsE p xs rows) else 2
/-- what Join hands back -/
def PJ (w : World) (p : Nat) (t : Int) (xs : List Nat) (rows : List (List Nat)) (e : Ending) (w' : World) : Prop :=
  Below w.heap.size w w' ∧ ((M.joinC p t xs rows ≠ 0 ∧ e = .returned (.tuple #[.slice none 0 0, .int .i64 (M.joinC p t xs rows)])) ∨
    (M.joinC p t xs rows = 0 ∧ ((∃ (F : Nat → Nat → Nat) (v' : Value), M.PairOf p (t.toNat + 1) xs rows F ∧ e = .returned (.tuple #[v', .int .i64 0]) ∧ Mat w' v' (M.tabMM (t.toNat + 1) (t.toNat + 1) F)) ∨
      ((∀ F, ¬ M.PairOf p (t.toNat + 1) xs rows F) ∧ e = .returned (.tuple #[.slice none 0 0, .int .i64 12])))))

set_option maxHeartbeats 1000000 in
theorem pjoin_any (p : Nat) (t : Int) (vx v : Value) (xs : List Nat) (rows : List (List Nat)) (w : World) (hp : p < 18446744073709551616) (h1 : -9223372036854775808 ≤ t) (h2 : t ≤ 9223372036854775807) (hx : Nums w vx xs) (hv : Mat w v rows) :
    Calls Try.prog 42 #[.int .u64 p, .int .i64 t, vx, v] w (PJ w p t xs rows) := by
  have hud : ∀ b : Bool, undef ≠ Value.bool b := fun b h => by cases h
  have PO := Lib.hid fun (W : World) (b : Below w.heap.size w W) => ppoly_any p vx v xs rows W hp (hx.below b) (hv.below b)
  have HX := Lib.hid hx
  obtain ⟨Ax, cx, rfl⟩ := nums_slice' hx
  obtain ⟨A, cap, rfl, _⟩ := mat_view6 hv
  have hcb0 : ((0 : Int) != 0) = false := rfl
  clear hx hv
  by_cases ht : 0 ≤ t ∧ t ≤ 3
  case neg =>
    have HT := Lib.hid fun w => isThr_any t w (r := false) (by simpa using ht)
    have HE := Lib.hid (show M.joinC p t xs rows = 2 by
      have hb : M.bnd p t ≠ 0 := by unfold M.bnd; split; (· rw [if_pos (by omega)]; decide); decide
      unfold M.joinC; rw [if_neg hb])
    clear ht
    go_enter Try.func42, Try.ntmps42
    go_wp2_with fail
    refine (HT.out _).mono ?_
    rintro e w1 ⟨rfl, rfl⟩
    go_wp2_with fail
    go_ret2
    exact ⟨Below.refl _ _, .inl ⟨by rw [HE.out]; decide, by rw [HE.out]; rfl⟩⟩
  have HT := Lib.hid fun w => isThr_any t w (r := true) (by simpa using ht)
  obtain ⟨T, rfl⟩ : ∃ T : Nat, t = T := ⟨t.toNat, by omega⟩
  have hT : T ≤ 3 := by omega
  by_cases hc : M.polyE p xs rows = 0
  case neg =>
    have HE := Lib.hid (show M.joinC p T xs rows = M.polyE p xs rows by
      cases hi : M.isP p with
      | false =>
        have hb : M.bnd p T = 2 := by unfold M.bnd; rw [if_neg (by simp [hi])]
        unfold M.joinC M.polyE
        rw [if_neg (by rw [hb]; decide), if_neg (by simp [hi])]
      | true =>
        have hpe : M.polyE p xs rows = M.rowsE p xs rows := by unfold M.polyE; rw [if_pos hi]
        rw [hpe] at hc ⊢
        unfold M.joinC
        rw [if_pos (M.bnd_ok hi hT), if_neg hc])
    obtain ⟨c, ec⟩ : ∃ c, c = M.polyE p xs rows := ⟨_, rfl⟩
    rw [← ec] at PO HE hc
    have hcb : (c != 0) = true := by rw [bne_iff_ne]; exact hc
    have HC := Lib.hid hc
    clear ec hc ht
    go_enter Try.func42, Try.ntmps42
    go_wp2_with fail
    refine (HT.out _).mono ?_
    rintro e w1 ⟨rfl, rfl⟩
    go_wp2_with fail
    refine (PO.out _ (Below.refl _ _)).mono ?_
    rintro e w1 ⟨hb, ⟨_, rfl⟩ | ⟨h, _⟩⟩
    case inr => exact absurd h HC.out
    have B1 := Lib.hid hb
    clear hb
    go_wp2_with fail
    go_ret2
    exact ⟨B1.out, .inl ⟨by rw [HE.out]; exact HC.out, by rw [HE.out]; rfl⟩⟩
  obtain ⟨hip, hok⟩ := M.polyE_ok hc
  rw [hc] at PO
  have hre : M.rowsE p xs rows = 0 := M.rowsE_ok hok
  have HJ := Lib.hid (show M.joinC p T xs rows = if xs.length < T + 1 then 11 else 0 by unfold M.joinC; rw [if_pos (M.bnd_ok hip hT), if_pos hre, Int.toNat_natCast])
  have HTL := Lib.hid (show (rows.map M.trim).length = xs.length by rw [List.length_map, hok.rl])
  by_cases hl : xs.length < T + 1
  · have hd : decide ((xs.length : Int) ≤ (T : Int)) = true := by rw [decide_eq_true_eq]; omega
    have hd2 : xs.length ≤ T := by omega
    have HE := Lib.hid (show M.joinC p T xs rows = 11 by rw [HJ.out, if_pos hl])
    clear hl hre hip hok hc ht
    go_enter Try.func42, Try.ntmps42
    go_wp2_with fail
    refine (HT.out _).mono ?_
    rintro e w1 ⟨rfl, rfl⟩
    go_wp2_with fail
    refine (PO.out _ (Below.refl _ _)).mono ?_
    rintro e w1 ⟨hb, ⟨h, _⟩ | ⟨_, v1, rfl, hm⟩⟩
    case inl => exact absurd rfl h
    have B1 := Lib.hid hb
    obtain ⟨A1, c1, rfl, _⟩ := mat_view6 hm
    rw [HTL.out]
    clear hb hm
    go_wp2_with fail
    go_ret2
    exact ⟨B1.out, .inl ⟨by rw [HE.out]; decide, by rw [HE.out]; rfl⟩⟩
  have hd : decide ((xs.length : Int) ≤ (T : Int)) = false := by rw [decide_eq_false_iff_not]; omega
  have hd2 : ¬ xs.length ≤ T := by omega
  have HE := Lib.hid (show M.joinC p T xs rows = 0 by rw [HJ.out, if_neg hl])
  have JO := Lib.hid fun (v : Value) (W : World) (b : Below w.heap.size w W) (h : Mat W v (rows.map M.trim)) => joined_any p T _ v xs rows W hip hT hok (by omega) (HX.out.below b) h
  clear hl hre hip hok hc ht
  go_enter Try.func42, Try.ntmps42
  go_wp2_with fail
  refine (HT.out _).mono ?_
  rintro e w1 ⟨rfl, rfl⟩
  go_wp2_with fail
  refine (PO.out _ (Below.refl _ _)).mono ?_
  rintro e w1 ⟨hb, ⟨h, _⟩ | ⟨_, v1, rfl, hm⟩⟩
  case inl => exact absurd rfl h
  have B1 := Lib.hid hb
  have J1 := Lib.hid (JO.out _ _ hb hm)
  obtain ⟨A1, c1, rfl, _⟩ := mat_view6 hm
  rw [HTL.out] at J1 ⊢
  clear hb hm JO
  go_wp2_with fail
  refine J1.out.mono ?_
  rintro e w2 ⟨hb, ⟨F, v2, hF, rfl, hm⟩ | ⟨hno, rfl⟩⟩
  · have B2 := Lib.hid (bnext B1.out hb)
    have HF := Lib.hid hF
    have HM := Lib.hid hm
    obtain ⟨A2, c2, rfl, _⟩ := mat_view6 hm
    clear hb hF hm
    go_wp2_with fail
    go_ret2
    exact ⟨B2.out, .inr ⟨HE.out, .inl ⟨F, _, by rw [Int.toNat_natCast]; exact HF.out, rfl, by rw [Int.toNat_natCast]; exact HM.out⟩⟩⟩
  · have B2 := Lib.hid (bnext B1.out hb)
    have HN := Lib.hid hno
    clear hb hno
    go_wp2_with fail
    go_ret2
    exact ⟨B2.out, .inr ⟨HE.out, .inr ⟨by rw [Int.toNat_natCast]; exact HN.out, rfl⟩⟩⟩
end Go.Proofs.Ytglehjcohdjhoaa
