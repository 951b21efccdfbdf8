/-
  The walk of PairTapes: Tape, and Make of what it hands back.
-/
import Derived.Test.YtglehjcohdjhoaaAl6
import Derived.Test.YtglehjcohdjhoaaPdM
namespace Go.Proofs.Ytglehjcohdjhoaa
open Go.RowKit
set_option linter.unusedVariables false
set_option maxRecDepth 100000

namespace pairTapesW
set_option maxHeartbeats 2000000 in
theorem bad (W : World) (p : Nat) (hp : p < 18446744073709551616) (t : Int) (h1 : -9223372036854775808 ≤ t) (h2 : t ≤ 9223372036854775807) (v : Value) (m : List (List Nat)) (hv : Mat W v m) (hc : M.pchk p t m ≠ 0) :
    Calls Try.prog 5 #[.int .u64 p, .int .i64 t, v] W fun e W' => e = .returned (.bool true) ∧ Below W.heap.size W W' := by
  have hud : ∀ b : Bool, undef ≠ Value.bool b := fun b h => by cases h
  have TP := Lib.hid (ptape_any p t v m W hp h1 h2 hv)
  have CHK := Lib.hid fun (w : World) (b : Below W.heap.size W w) => rcheck6_one p t v m w hp h1 h2 (hv.below b)
  obtain ⟨c, ec⟩ : ∃ c, M.pchk p t m = c := ⟨_, rfl⟩
  rw [ec] at TP CHK hc
  have hcb : (c != 0) = true := by rw [bne_iff_ne]; exact hc
  have LS := Lib.hid fun (w : World) => list6_bad c (.slice none 0 0) w hc ⟨_, _, _, rfl⟩
  obtain ⟨A, cap, rfl, _⟩ := mat_view6 hv
  have HC := Lib.hid hc
  clear hv ec hc
  go_enter Try.func5, Try.ntmps5
  go_wp2_with fail
  refine TP.out.mono ?_
  rintro e w1 (⟨_, rfl, hb⟩ | ⟨h, _⟩)
  case inr => exact absurd h HC.out
  have B1 := Lib.hid hb
  clear hb
  go_wp2_with fail
  refine (CHK.out _ B1.out).mono ?_
  rintro e w2 ⟨rfl, hb⟩
  have B2 := Lib.hid (bnext B1.out hb)
  clear hb
  go_wp2_with fail
  refine (LS.out _).mono ?_
  rintro e w3 ⟨rfl, rfl⟩
  go_wp2_with fail
  refine (alive6_any _).mono ?_
  rintro e w4 ⟨rfl, hb⟩
  have B3 := Lib.hid (bnext B2.out hb)
  clear hb
  go_wp2_with fail
  go_ret
  exact ⟨rfl, B3.out⟩
set_option maxHeartbeats 2000000 in
theorem good (W : World) (p T : Nat) (h3 : 3 ≤ p) (hp : p ≤ 65537) (hip : M.isP p = true) (hT : T ≤ 3) (v : Value) (m : List (List Nat)) (hv : Mat W v m) (hm : M.POk p (T + 1) m) :
    Calls Try.prog 5 #[.int .u64 p, .int .i64 T, v] W fun e W' => e = .returned (.bool true) ∧ Below W.heap.size W W' := by
  have hud : ∀ b : Bool, undef ≠ Value.bool b := fun b h => by cases h
  have hc : M.pchk p T m = 0 := M.pchk_ok hip hT hm
  have TP := Lib.hid (ptape_any p T v m W (by omega) (by omega) (by omega) hv)
  have CHK := Lib.hid fun (w : World) (b : Below W.heap.size W w) => rcheck6_one p T v m w (by omega) (by omega) (by omega) (hv.below b)
  have RT := Lib.hid fun (w : World) (b : Below W.heap.size W w) => rtape6_any p (T + 1) v m w (by omega) (by omega) h3 hp hm (hv.below b)
  have hs0 : M.el m 0 0 < p := hm.el_lt (by omega) (by omega)
  have hmk : M.mkE p (M.el m 0 0) T = 0 := by unfold M.mkE; rw [if_pos (M.bnd_ok hip hT), if_neg (by omega)]
  have hmd := M.made_tape (p := p) (n := T + 1) (m := m) (by omega) hm
  have hF : M.tabMM (T + 1) (T + 1) (M.triF (T + 1) (M.tapeK (T + 1) (M.el m) (T + 1))) = m := by
    rw [hm.rows']
    refine M.tabMM_congr fun i hi j hj => ?_
    rw [← hm.rows']
    exact M.triF_tape hm.sym i j hi hj
  have MK := Lib.hid fun (w : World) (v : Value) (hn : Nums w v (M.tapeK (T + 1) (M.el m) (T + 1)).tail) => pmake_any p (M.el m 0 0) T v _ w (by omega) (by omega) (by omega) (by omega) hn
  rw [Int.toNat_natCast, hmk, hmd, hF] at MK
  rw [hc] at TP CHK
  rw [Int.toNat_natCast] at TP
  have hdl : (M.tapeK (T + 1) (M.el m) (T + 1)).tail.drop (M.triR (T + 1) (T + 1) - 1) = [] := by
    rw [List.drop_eq_nil_iff]
    simp [M.tapeK_len]
  rw [hdl] at MK
  have hml : m.length ≤ 1000 := by rw [hm.len]; omega
  obtain ⟨s, es⟩ : ∃ s, M.el m 0 0 = s := ⟨_, rfl⟩
  obtain ⟨zs, ez⟩ : ∃ zs, (M.tapeK (T + 1) (M.el m) (T + 1)).tail = zs := ⟨_, rfl⟩
  rw [es, ez] at TP RT MK
  have HV := Lib.hid hv
  have hss : ((s : Int) == (s : Int)) = true := by simp
  have hcb : ((0 : Int) != 0) = false := rfl
  obtain ⟨A, cap, rfl, _⟩ := mat_view6 hv
  clear hv hc hmk hmd hF hdl es ez hm hs0
  go_enter Try.func5, Try.ntmps5
  go_wp2_with fail
  refine TP.out.mono ?_
  rintro e w1 (⟨h, _⟩ | ⟨_, v1, rfl, hn, hb⟩)
  case inl => exact absurd rfl h
  have B1 := Lib.hid hb
  have HN := Lib.hid hn
  obtain ⟨A1, c1, rfl⟩ := nums_slice' hn
  clear hb hn
  go_wp2_with fail
  refine (CHK.out _ B1.out).mono ?_
  rintro e w2 ⟨rfl, hb⟩
  have B2 := Lib.hid (bnext B1.out hb)
  have HN2 := Lib.hid (HN.out.below hb)
  clear hb
  go_wp2_with fail
  refine (RT.out _ B2.out).mono ?_
  rintro e w3 ⟨v2, rfl, hn, hb⟩
  have B3 := Lib.hid (bnext B2.out hb)
  have HN3 := Lib.hid (HN2.out.below hb)
  have HW3 := Lib.hid hn
  obtain ⟨A2, c2, rfl⟩ := nums_slice' hn
  clear hb hn
  go_wp2_with fail
  refine (MK.out _ _ HN3.out).mono ?_
  rintro e w4 (⟨h, _⟩ | ⟨_, v3, v4, rfl, hm3, hn, hb⟩)
  case inl => exact absurd rfl h
  have B4 := Lib.hid (bnext B3.out hb)
  have LS := Lib.hid (list6_good _ _ _ _ (HN3.out.below hb) (HW3.out.below hb))
  have IS := Lib.hid fun w (b : Below w4.heap.size w4 w) => is6_good _ _ m w hml (hm3.below b) (HV.out.below (bnext B4.out b))
  obtain ⟨A3, c3, rfl, _⟩ := mat_view6 hm3
  obtain ⟨A4, c4, rfl⟩ := nums_slice' hn
  clear hb hn hm3
  go_wp2_with fail
  refine LS.out.mono ?_
  rintro e w5 ⟨rfl, hb⟩
  have B5 := Lib.hid (bnext B4.out hb)
  have IS5 := Lib.hid (IS.out _ hb)
  clear hb
  go_wp2_with fail
  refine IS5.out.mono ?_
  rintro e w6 ⟨rfl, hb⟩
  have B6 := Lib.hid (bnext B5.out hb)
  clear hb
  go_wp2_with fail
  refine (alive6_any _).mono ?_
  rintro e w7 ⟨rfl, hb⟩
  have B7 := Lib.hid (bnext B6.out hb)
  clear hb
  go_wp2_with fail
  go_ret
  exact ⟨rfl, B7.out⟩
theorem walk (W : World) (p : Nat) (hp : p < 18446744073709551616) (t : Int) (h1 : -9223372036854775808 ≤ t) (h2 : t ≤ 9223372036854775807) (v : Value) (m : List (List Nat)) (hv : Mat W v m) :
    Calls Try.prog 5 #[.int .u64 p, .int .i64 t, v] W fun e W' => e = .returned (.bool true) ∧ Below W.heap.size W W' := by
  by_cases h : M.pchk p t m = 0
  · obtain ⟨T, rfl, hT, hi, ho⟩ := M.pchk_zero h
    obtain ⟨h3, hp5⟩ := M.pos_of hi
    exact good W p T h3 hp5 hi hT v m hv ho
  · exact bad W p hp t h1 h2 v m hv h
end pairTapesW
end Go.Proofs.Ytglehjcohdjhoaa
