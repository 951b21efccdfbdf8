/-
  The walk of the law DecodeTold.
-/
import Derived.Test.YtfgfapbhgehfiaaL5
namespace Go.Proofs.Ytfgfapbhgehfiaa.decodeToldW
open Go.RowKit
set_option linter.unusedVariables false
set_option maxRecDepth 100000

set_option maxHeartbeats 1000000 in
theorem bad (w : World) (p : Nat) (hp : p < 18446744073709551616) (d : Int) (hd1 : -9223372036854775808 ≤ d) (hd2 : d ≤ 9223372036854775807) (v : Value) (xs ys : List Nat) (hv : Pts w v xs ys) (h : M.bestE p d xs ys ≠ 0) :
    Calls Try.prog 11 #[.int .u64 p, .int .i64 d, v] w fun e w' => e = .returned (.bool true) ∧ Below w.heap.size w w' := by
  have hud : ∀ b : Bool, undef ≠ Value.bool b := fun b h => by cases h
  have h1 := fun W (hW : Pts W v xs ys) => best_fail p d v xs ys W hp hd1 hd2 hW h
  obtain ⟨c, ec⟩ : ∃ c, c = M.bestE p d xs ys := ⟨_, rfl⟩
  rw [← ec] at h1 h
  have H1 := Lib.hid h1
  have HV := Lib.hid hv
  obtain ⟨A, cap, rfl, _⟩ := hv.2.2.2.2
  clear h1 ec hv
  have B0 := Lib.hid (Below.refl w.heap.size w)
  go_enter Try.func11, Try.ntmps11
  have V_0 := Lib.hid HV.out
  go_wp2_with fail
  refine (H1.out _ V_0.out).mono ?_
  rintro e w1 ⟨rfl, hb1⟩
  have B1 := Lib.hid (bnext B0.out hb1)
  have V_1 := Lib.hid (V_0.out.below hb1)
  clear hb1  
  go_wp2_with fail
  refine (alive_any _).mono ?_
  rintro e w2 ⟨rfl, hb2⟩
  have B2 := Lib.hid (bnext B1.out hb2)
  have V_2 := Lib.hid (V_1.out.below hb2)
  clear hb2  
  go_wp2_with fail
  go_ret
  exact ⟨rfl, B2.out⟩

set_option maxHeartbeats 1000000 in
theorem ok (w : World) (p d : Nat) (v : Value) (xs ys : List Nat) (hv : Pts w v xs ys) (hok : M.DOk p d xs ys) (hn : d + 1 ≤ xs.length) :
    Calls Try.prog 11 #[.int .u64 p, .int .i64 d, v] w fun e w' => e = .returned (.bool true) ∧ Below w.heap.size w w' := by
  have hud : ∀ b : Bool, undef ≠ Value.bool b := fun b h => by cases h
  have hp := M.pos_of hok.isp
  have hl := hok.len
  have h1 := fun W (hW : Pts W v xs ys) => best_ok p d v xs ys W hok hn hW
  have h2 := fun W => rmost_any xs.length d W (by omega) (by omega) (by omega) (by omega)
  rw [M.most_nat hn] at h2
  obtain ⟨q, eq⟩ : ∃ q, q = (xs.length - d - 1) / 2 := ⟨_, rfl⟩
  rw [← eq] at h1 h2
  have H1 := Lib.hid h1
  have H2 := Lib.hid h2
  have H3 := Lib.hid fun (W : World) (vf : Value) (f : List Nat) (a : M.within p f = true) (b : Nums W vf f) (c : Pts W v xs ys) => roff_any p vf v f xs ys W hp.1 hp.2 a hl hok.wx b c
  have H64 := Lib.hid hl
  have HV := Lib.hid hv
  have hd63 := hok.d63
  obtain ⟨A, cap, rfl, _⟩ := hv.2.2.2.2
  clear h1 h2 eq hv hok hn
  unfold DecEnd at H1
  have B0 := Lib.hid (Below.refl w.heap.size w)
  go_enter Try.func11, Try.ntmps11
  have V_0 := Lib.hid HV.out
  go_wp2_with fail
  refine (H1.out _ V_0.out).mono ?_
  rintro e w1 ⟨hb1, ⟨f, v1, u, hg, rfl, hf, ho⟩ | ⟨hno, rfl⟩⟩
  · skip
    have HG := Lib.hid hg
    have hI := ints_of_owns ho
    have hF := hf
    clear hg ho hf
    have B1 := Lib.hid (bnext B0.out hb1)
    have V_1 := Lib.hid (V_0.out.below hb1)
    have F_1 := Lib.hid hF
    have I_1 := Lib.hid hI
    clear hb1 hF hI 
    obtain ⟨Af, cf, rfl⟩ := nums_slice' F_1.out
    obtain ⟨Au, cu, rfl⟩ := ints_slice I_1.out
    have hfl := HG.out.len
    have hol := HG.out.few
    have hfl2 : (f.length : Int) ≤ (d : Int) + 1 := by omega
    have hol2 : ((M.offI p f xs ys).length : Int) ≤ (q : Nat) := by omega
    go_wp2_with fail
    refine (H2.out _).mono ?_
    rintro e w' ⟨rfl, rfl⟩
    go_wp2_with fail
    refine (H3.out _ _ _ HG.out.lt F_1.out V_1.out).mono ?_
    rintro e w2 ⟨v2, rfl, ho2, hb2⟩
    have B2 := Lib.hid (bnext B1.out hb2)
    have V_2 := Lib.hid (V_1.out.below hb2)
    have F_2 := Lib.hid (F_1.out.below hb2)
    have I_2 := Lib.hid (I_1.out.below hb2)
    clear hb2  
    have I2_2 := Lib.hid (ints_of_owns ho2)
    clear ho2
    go_wp2_with fail
    refine (ints5_any _ _ _ _ (Nat.le_trans (M.offK_len p f xs ys xs.length) (Nat.le_trans H64.out (by omega))) I_2.out I2_2.out).mono ?_
    rintro e w3 ⟨rfl, hb3⟩
    have B3 := Lib.hid (bnext B2.out hb3)
    have V_3 := Lib.hid (V_2.out.below hb3)
    have F_3 := Lib.hid (F_2.out.below hb3)
    have I_3 := Lib.hid (I_2.out.below hb3)
    have I2_3 := Lib.hid (I2_2.out.below hb3)
    clear hb3  
    go_wp2_with fail
    refine (alive_any _).mono ?_
    rintro e w4 ⟨rfl, hb4⟩
    have B4 := Lib.hid (bnext B3.out hb4)
    have V_4 := Lib.hid (V_3.out.below hb4)
    have F_4 := Lib.hid (F_3.out.below hb4)
    have I_4 := Lib.hid (I_3.out.below hb4)
    have I2_4 := Lib.hid (I2_3.out.below hb4)
    clear hb4  
    go_wp2_with fail
    go_ret
    exact ⟨rfl, B4.out⟩
  · skip
    clear hno
    have B1 := Lib.hid (bnext B0.out hb1)
    have V_1 := Lib.hid (V_0.out.below hb1)
    clear hb1  
    go_wp2_with fail
    refine (alive_any _).mono ?_
    rintro e w2 ⟨rfl, hb2⟩
    have B2 := Lib.hid (bnext B1.out hb2)
    have V_2 := Lib.hid (V_1.out.below hb2)
    clear hb2  
    go_wp2_with fail
    go_ret
    exact ⟨rfl, B2.out⟩

theorem walk (w : World) (p : Nat) (hp : p < 18446744073709551616) (d : Int) (hd1 : -9223372036854775808 ≤ d) (hd2 : d ≤ 9223372036854775807) (v : Value) (xs ys : List Nat) (hv : Pts w v xs ys) :
    Calls Try.prog 11 #[.int .u64 p, .int .i64 d, v] w fun e w' => e = .returned (.bool true) ∧ Below w.heap.size w w' := by
  by_cases h : M.bestE p d xs ys = 0
  · obtain ⟨D, rfl, hok, hn⟩ := M.bestE_ok h
    exact ok w p D v xs ys hv hok hn
  · exact bad w p hp d hd1 hd2 v xs ys hv h
end Go.Proofs.Ytfgfapbhgehfiaa.decodeToldW
