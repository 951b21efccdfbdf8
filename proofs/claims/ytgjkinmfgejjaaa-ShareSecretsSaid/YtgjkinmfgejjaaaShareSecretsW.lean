/-
  The walk of the law ShareSecrets.
-/
import Derived.Test.YtgjkinmfgejjaaaS11
import Derived.Test.YtgjkinmfgejjaaaKept
namespace Go.Proofs.Ytgjkinmfgejjaaa.shareSecretsW
open Go.RowKit
set_option linter.unusedVariables false
set_option maxRecDepth 100000

set_option maxHeartbeats 1000000 in
theorem arg (w : World) (p : Nat) (hp : p < 18446744073709551616) (d : Int) (hd1 : -9223372036854775808 ≤ d) (hd2 : d ≤ 9223372036854775807) (v : Value) (xs ys : List Nat) (hv : Pts w v xs ys) (h : d < 0 ∨ 200 < d) :
    Calls Try.prog 6 #[.int .u64 p, .int .i64 d, v] w fun e w' => e = .returned (.bool true) ∧ Below w.heap.size w w' := by
  have h1 := fun W (hV : Pts W v xs ys) => secret_arg p d v W hd1 hd2 h
  have H2 := Lib.hid fun W => refIs_any p W hp
  have hs0 : ((2 : Int) == 0) = false := rfl
  have hs1 : ((2 : Int) != 0) = true := rfl
  have hud : ∀ b : Bool, undef ≠ Value.bool b := fun b h => by cases h
  obtain ⟨A0, cap0, hv0⟩ := pts_slice hv
  have H1 := Lib.hid fun W (hV : Pts W v xs ys) => secret_arg p d v W hd1 hd2 h _ _ _ hv0
  clear h1 hv0
  cases hi : M.isP p with
  | false =>
    rw [hi] at H2
    clear hi h
    have V_0 := Lib.hid hv
    obtain ⟨A, cap, rfl⟩ := pts_slice hv
    clear hv
    have B0 := Lib.hid (Below.refl w.heap.size w)
    go_enter Try.func6, Try.ntmps6
    go_wp2_with fail
    refine (H1.out _ V_0.out).mono ?_
    rintro e w1 ⟨rfl, hb1⟩
    have B1 := Lib.hid (bnext B0.out hb1)
    have V_1 := Lib.hid (V_0.out.below hb1)
    clear hb1  
    go_wp2_with fail
    refine (H2.out _).mono ?_
    rintro e w' ⟨rfl, rfl⟩
    go_wp2_with fail
    refine (alive_any _).mono ?_
    rintro e w2 ⟨rfl, hb2⟩
    have B2 := Lib.hid (bnext B1.out hb2)
    have V_2 := Lib.hid (V_1.out.below hb2)
    clear hb2  
    go_wp2_with fail
    go_ret
    exact ⟨rfl, B2.out⟩
  
  | true =>
    rw [hi] at H2
    rcases h with h | h
    · skip
      have V_0 := Lib.hid hv
      obtain ⟨A, cap, rfl⟩ := pts_slice hv
      clear hv
      have B0 := Lib.hid (Below.refl w.heap.size w)
      go_enter Try.func6, Try.ntmps6
      go_wp2_with fail
      refine (H1.out _ V_0.out).mono ?_
      rintro e w1 ⟨rfl, hb1⟩
      have B1 := Lib.hid (bnext B0.out hb1)
      have V_1 := Lib.hid (V_0.out.below hb1)
      clear hb1  
      go_wp2_with fail
      refine (H2.out _).mono ?_
      rintro e w' ⟨rfl, rfl⟩
      go_wp2_with fail
      refine (alive_any _).mono ?_
      rintro e w2 ⟨rfl, hb2⟩
      have B2 := Lib.hid (bnext B1.out hb2)
      have V_2 := Lib.hid (V_1.out.below hb2)
      clear hb2  
      go_wp2_with fail
      go_ret
      exact ⟨rfl, B2.out⟩
    
    · have h' : ¬ d < 0 := by omega
      have V_0 := Lib.hid hv
      obtain ⟨A, cap, rfl⟩ := pts_slice hv
      clear hv
      have B0 := Lib.hid (Below.refl w.heap.size w)
      go_enter Try.func6, Try.ntmps6
      go_wp2_with fail
      refine (H1.out _ V_0.out).mono ?_
      rintro e w1 ⟨rfl, hb1⟩
      have B1 := Lib.hid (bnext B0.out hb1)
      have V_1 := Lib.hid (V_0.out.below hb1)
      clear hb1  
      go_wp2_with fail
      refine (H2.out _).mono ?_
      rintro e w' ⟨rfl, rfl⟩
      go_wp2_with fail
      refine (alive_any _).mono ?_
      rintro e w2 ⟨rfl, hb2⟩
      have B2 := Lib.hid (bnext B1.out hb2)
      have V_2 := Lib.hid (V_1.out.below hb2)
      clear hb2  
      go_wp2_with fail
      go_ret
      exact ⟨rfl, B2.out⟩
    
set_option maxHeartbeats 1000000 in
theorem noP (w : World) (p : Nat) (hp : p < 18446744073709551616) (d : Nat) (hd : d ≤ 200) (v : Value) (xs ys : List Nat) (hv : Pts w v xs ys) (hi : M.isP p = false) :
    Calls Try.prog 6 #[.int .u64 p, .int .i64 d, v] w fun e w' => e = .returned (.bool true) ∧ Below w.heap.size w w' := by
  have h1 := fun W (hV : Pts W v xs ys) => secret_bad p d v xs ys W hp hd hV (by rw [← M.chkP_no xs ys hi]; omega)
  rw [← M.chkP_no xs ys hi] at h1
  have H1 := Lib.hid h1
  have h2 := fun W => refIs_any p W hp
  rw [hi] at h2
  have H2 := Lib.hid h2
  have hs0 : ((2 : Int) == 0) = false := rfl
  have hs1 : ((2 : Int) != 0) = true := rfl
  have hud : ∀ b : Bool, undef ≠ Value.bool b := fun b h => by cases h
  clear h1 h2 hi
  have V_0 := Lib.hid hv
  obtain ⟨A, cap, rfl⟩ := pts_slice hv
  clear hv
  have B0 := Lib.hid (Below.refl w.heap.size w)
  go_enter Try.func6, Try.ntmps6
  go_wp2_with fail
  refine (H1.out _ V_0.out).mono ?_
  rintro e w1 ⟨rfl, hb1⟩
  have B1 := Lib.hid (bnext B0.out hb1)
  have V_1 := Lib.hid (V_0.out.below hb1)
  clear hb1  
  go_wp2_with fail
  refine (H2.out _).mono ?_
  rintro e w' ⟨rfl, rfl⟩
  go_wp2_with fail
  refine (alive_any _).mono ?_
  rintro e w2 ⟨rfl, hb2⟩
  have B2 := Lib.hid (bnext B1.out hb2)
  have V_2 := Lib.hid (V_1.out.below hb2)
  clear hb2  
  go_wp2_with fail
  go_ret
  exact ⟨rfl, B2.out⟩

set_option maxHeartbeats 1000000 in
theorem bad (w : World) (p : Nat) (hp : p < 18446744073709551616) (d : Nat) (hd : d ≤ 200) (v : Value) (xs ys : List Nat) (hv : Pts w v xs ys) (hi : M.isP p = true) (c : Int) (hc : c ≠ 0) (hpt : M.ptErr p xs ys 201 = c)
    (h1 : ∀ W, Pts W v xs ys → Calls Try.prog 27 #[.int .u64 p, .int .i64 d, v] W fun e w' => e = .returned (.tuple #[.int .u64 (0 : Nat), .int .i64 c]) ∧ Below W.heap.size W w') :
    Calls Try.prog 6 #[.int .u64 p, .int .i64 d, v] w fun e w' => e = .returned (.bool true) ∧ Below w.heap.size w w' := by
  have H1 := Lib.hid h1
  have h2 := fun W => refIs_any p W hp
  rw [hi] at h2
  have H2 := Lib.hid h2
  have h3 := fun W (hV : Pts W v xs ys) => rpoints_any p 201 v xs ys W hp (by omega) hV
  rw [hpt] at h3
  have H3 := Lib.hid h3
  have hs0 : (c == 0) = false := by simpa using hc
  have hs1 : (c != 0) = true := by rw [bne_iff_ne]; exact hc
  have hs2 : (c == c) = true := by simp
  have g1 : ¬ (d : Int) < 0 := by omega
  have g2 : ¬ (200 : Int) < d := by omega
  have hud : ∀ b : Bool, undef ≠ Value.bool b := fun b h => by cases h
  clear h1 h2 h3 hi hpt hc
  have V_0 := Lib.hid hv
  obtain ⟨A, cap, rfl⟩ := pts_slice hv
  clear hv
  have B0 := Lib.hid (Below.refl w.heap.size w)
  go_enter Try.func6, Try.ntmps6
  go_wp2_with fail
  refine (H1.out _ V_0.out).mono ?_
  rintro e w1 ⟨rfl, hb1⟩
  have B1 := Lib.hid (bnext B0.out hb1)
  have V_1 := Lib.hid (V_0.out.below hb1)
  clear hb1  
  go_wp2_with fail
  refine (H2.out _).mono ?_
  rintro e w' ⟨rfl, rfl⟩
  go_wp2_with fail
  refine (H3.out _ V_1.out).mono ?_
  rintro e w2 ⟨rfl, hb2⟩
  have B2 := Lib.hid (bnext B1.out hb2)
  have V_2 := Lib.hid (V_1.out.below hb2)
  clear hb2  
  go_wp2_with fail
  refine (alive_any _).mono ?_
  rintro e w3 ⟨rfl, hb3⟩
  have B3 := Lib.hid (bnext B2.out hb3)
  have V_3 := Lib.hid (V_2.out.below hb3)
  clear hb3  
  go_wp2_with fail
  go_ret
  exact ⟨rfl, B3.out⟩


set_option maxHeartbeats 2000000 in
theorem ok (w : World) (p : Nat) (d : Nat) (hd : d ≤ 200) (v : Value) (xs ys : List Nat) (hv : Pts w v xs ys) (hck : M.chkP p xs ys = 0) (hnd : xs.Nodup) :
    Calls Try.prog 6 #[.int .u64 p, .int .i64 d, v] w fun e w' => e = .returned (.bool true) ∧ Below w.heap.size w w' := by
  obtain ⟨hi, hl, hwx, hwy⟩ := M.chkP_ok hck
  obtain ⟨h3, hp⟩ := M.pos_of hi
  have H1 := Lib.hid fun W (hV : Pts W v xs ys) => secret_any p d v xs ys W hd hV hck
  have h2 := fun W => refIs_any p W (by omega)
  rw [hi] at h2
  have H2 := Lib.hid h2
  have h3' := fun W (hV : Pts W v xs ys) => rpoints_any p 201 v xs ys W (by omega) (by omega) hV
  rw [← M.ptErr_ok (p := p) (ys := ys) (show ¬ 201 < xs.length by omega) ⟨hwx, hwy⟩ hnd] at h3'
  have H3 := Lib.hid h3'
  have H4 := Lib.hid fun W (hV : Pts W v xs ys) => rline_any p d v xs ys W (by omega) (by omega) hV hi hl hwx hwy hnd
  have HU := Lib.hid fun f f' (a : M.Thru p xs ys f) (b : M.Thru p xs ys f') => M.Thru.unique hi hnd hwx a b
  have HE := Lib.hid fun W u f (hT : M.Thru p xs ys f) (hN : Nums W u f) => reval_any p 0 u f W (by omega) hp (by omega) hT.1 hN
  have ND := Lib.hid hnd
  have hs0 : ((0 : Int) == 0) = true := rfl
  have hs1 : ((0 : Int) != 0) = false := rfl
  have hs2 : ((11 : Int) != 0) = true := rfl
  have hs3 : ((11 : Int) == 11) = true := rfl
  have hs4 : ((12 : Int) == 12) = true := rfl
  have g1 : ¬ (d : Int) < 0 := by omega
  have g2 : ¬ (200 : Int) < d := by omega
  have hud : ∀ b : Bool, undef ≠ Value.bool b := fun b h => by cases h
  clear h2 h3' hi hck hnd hwx hwy
  have V_0 := Lib.hid hv
  obtain ⟨A, cap, rfl⟩ := pts_slice hv
  clear hv
  have B0 := Lib.hid (Below.refl w.heap.size w)
  go_enter Try.func6, Try.ntmps6
  go_wp2_with fail
  refine (H1.out _ V_0.out).mono ?_
  rintro e w1 ⟨hb1, ⟨hnd, _⟩ | ⟨_, f, hT, ⟨g3, rfl⟩ | ⟨g3, g4, rfl⟩ | ⟨g3, g4, rfl⟩⟩⟩
  · exact absurd ND.out hnd
  · have HT := Lib.hid hT
    clear hT
    have B1 := Lib.hid (bnext B0.out hb1)
    have V_1 := Lib.hid (V_0.out.below hb1)
    clear hb1  
    have g3' : (xs.length : Int) < (d : Nat) + 1 := by omega
    go_wp2_with fail
    refine (H2.out _).mono ?_
    rintro e w' ⟨rfl, rfl⟩
    go_wp2_with fail
    refine (H3.out _ V_1.out).mono ?_
    rintro e w2 ⟨rfl, hb2⟩
    have B2 := Lib.hid (bnext B1.out hb2)
    have V_2 := Lib.hid (V_1.out.below hb2)
    clear hb2  
    go_wp2_with fail
    refine (alive_any _).mono ?_
    rintro e w3 ⟨rfl, hb3⟩
    have B3 := Lib.hid (bnext B2.out hb3)
    have V_3 := Lib.hid (V_2.out.below hb3)
    clear hb3  
    go_wp2_with fail
    go_ret
    exact ⟨rfl, B3.out⟩
  · have HT := Lib.hid hT
    clear hT
    have B1 := Lib.hid (bnext B0.out hb1)
    have V_1 := Lib.hid (V_0.out.below hb1)
    clear hb1  
    have g3' : ¬ (xs.length : Int) < (d : Nat) + 1 := by omega
    go_wp2_with fail
    refine (H2.out _).mono ?_
    rintro e w' ⟨rfl, rfl⟩
    go_wp2_with fail
    refine (H3.out _ V_1.out).mono ?_
    rintro e w2 ⟨rfl, hb2⟩
    have B2 := Lib.hid (bnext B1.out hb2)
    have V_2 := Lib.hid (V_1.out.below hb2)
    clear hb2  
    go_wp2_with fail
    refine (H4.out _ V_2.out).mono ?_
    rintro e w3 ⟨u, f', rfl, hF, hT', hb3⟩
    have B3 := Lib.hid (bnext B2.out hb3)
    have V_3 := Lib.hid (V_2.out.below hb3)
    have F_3 := Lib.hid hF
    clear hb3 hF 
    obtain rfl := HU.out _ _ HT.out hT'
    clear hT'
    have g5 : decide ((f.length : Int) ≤ (d : Nat) + 1) = false := by simp; omega
    have g6 : ¬ (f.length : Int) ≤ (d : Nat) + 1 := by omega
    go_wp2_with fail
    refine (alive_any _).mono ?_
    rintro e w4 ⟨rfl, hb4⟩
    have B4 := Lib.hid (bnext B3.out hb4)
    have V_4 := Lib.hid (V_3.out.below hb4)
    have F_4 := Lib.hid (F_3.out.below hb4)
    clear hb4  
    go_wp2_with fail
    go_ret
    exact ⟨rfl, B4.out⟩
  · have HT := Lib.hid hT
    clear hT
    have B1 := Lib.hid (bnext B0.out hb1)
    have V_1 := Lib.hid (V_0.out.below hb1)
    clear hb1  
    have g3' : ¬ (xs.length : Int) < (d : Nat) + 1 := by omega
    go_wp2_with fail
    refine (H2.out _).mono ?_
    rintro e w' ⟨rfl, rfl⟩
    go_wp2_with fail
    refine (H3.out _ V_1.out).mono ?_
    rintro e w2 ⟨rfl, hb2⟩
    have B2 := Lib.hid (bnext B1.out hb2)
    have V_2 := Lib.hid (V_1.out.below hb2)
    clear hb2  
    go_wp2_with fail
    refine (H4.out _ V_2.out).mono ?_
    rintro e w3 ⟨u, f', rfl, hF, hT', hb3⟩
    have B3 := Lib.hid (bnext B2.out hb3)
    have V_3 := Lib.hid (V_2.out.below hb3)
    have F_3 := Lib.hid hF
    clear hb3 hF 
    obtain rfl := HU.out _ _ HT.out hT'
    clear hT'
    have g5 : decide ((f.length : Int) ≤ (d : Nat) + 1) = true := by simp; omega
    have g6 : (f.length : Int) ≤ (d : Nat) + 1 := by omega
    have hE := HE.out w3 _ f HT.out F_3.out
    obtain ⟨y, ey⟩ : ∃ y, y = M.pev p f 0 := ⟨_, rfl⟩
    rw [← ey] at hE ⊢
    have hyb : ((y : Int) == y) = true := by simp
    have HEE := Lib.hid hE
    clear ey hE
    go_wp2_with fail
    refine (HEE.out).mono ?_
    rintro e w' ⟨rfl, rfl⟩
    go_wp2_with fail
    go_ret
    exact ⟨rfl, B3.out⟩

theorem walk (w : World) (p : Nat) (hp : p < 18446744073709551616) (d : Int) (hd1 : -9223372036854775808 ≤ d) (hd2 : d ≤ 9223372036854775807) (v : Value) (xs ys : List Nat) (hv : Pts w v xs ys) :
    Calls Try.prog 6 #[.int .u64 p, .int .i64 d, v] w fun e w' => e = .returned (.bool true) ∧ Below w.heap.size w w' := by
  by_cases hd : d < 0 ∨ 200 < d
  · exact arg w p hp d hd1 hd2 v xs ys hv hd
  · obtain ⟨D, rfl⟩ := Int.eq_ofNat_of_zero_le (show 0 ≤ d by omega)
    cases hi : M.isP p with
    | false => exact noP w p hp D (by omega) v xs ys hv hi
    | true =>
      by_cases hck : M.chkP p xs ys = 0
      · obtain ⟨_, hl, hwx, hwy⟩ := M.chkP_ok hck
        by_cases hnd : xs.Nodup
        · exact ok w p D (by omega) v xs ys hv hck hnd
        · refine bad w p hp D (by omega) v xs ys hv hi 6 (by omega) (M.ptErr_twice (by omega) ⟨hwx, hwy⟩ hnd).symm fun W hV => (secret_any p D v xs ys W (by omega) hV hck).mono ?_
          rintro e w' ⟨hb, ⟨_, rfl⟩ | ⟨h, _⟩⟩
          · exact ⟨rfl, hb⟩
          · exact absurd h hnd
      · refine bad w p hp D (by omega) v xs ys hv hi (M.chkP p xs ys) hck ?_ fun W hV => secret_bad p D v xs ys W hp (by omega) hV hck
        by_cases h1 : 201 < xs.length
        · rw [← M.chkP_long hi h1, ← M.ptErr_long h1]
        · by_cases h2 : M.within p xs = true ∧ M.within p ys = true
          · exact absurd (M.chkP_of hi h1 h2).symm hck
          · rw [← M.chkP_out hi h1 h2, ← M.ptErr_out h1 h2]
end Go.Proofs.Ytgjkinmfgejjaaa.shareSecretsW
