/-
  The walk of the law PolyValued.
-/
import Derived.Test.YtafoonhmfieikaaLawLib
import Derived.Test.YtafoonhmfieikaaApi2
import Derived.Test.YtafoonhmfieikaaFrame
namespace Go.Proofs.Ytafoonhmfieikaa.polyValuedW
open Go.RowKit
set_option linter.unusedVariables false

set_option maxHeartbeats 1000000 in
theorem err (w : World) (p : Nat) (hp : p < 18446744073709551616) (v : Value) (f : List Nat) (hv : Nums w v f) (v2 : Value) (g : List Nat) (hv2 : Nums w v2 g) (x : Nat) (hx : x < 18446744073709551616) (h : M.rgt p [f, g] ≠ 0) :
    Calls Try.prog 12 #[.int .u64 p, .agg #[v, v2], .int .u64 x] w fun e w' => e = .returned (.bool true) ∧ Below w.heap.size w w' := by
  have HV := Lib.hid hv
  have HV2 := Lib.hid hv2
  have h1 := fun W (h1 : Nums W v f) (h2 : Nums W v2 g) => right_two p v v2 f g W hp h1 h2
  obtain ⟨c, ec⟩ : ∃ c, c = M.rgt p [f, g] := ⟨_, rfl⟩
  rw [← ec] at h h1
  have hb : (c != 0) = true := by rw [bne_iff_ne]; exact h
  clear ec
  have H1 := Lib.hid h1
  obtain ⟨A, cap, rfl⟩ := nums_slice' hv
  obtain ⟨A2, cap2, rfl⟩ := nums_slice' hv2
  have hud : ∀ b : Bool, undef ≠ Value.bool b := fun b h => by cases h
  clear h hv hv2 h1
  go_enter Try.func12, Try.ntmps12
  go_wp2_with fail
  go_quiet (fail)
  obtain ⟨w0, hw0⟩ : ∃ w0, (w.alloc (.cells #[.slice A f.length cap, .slice A2 g.length cap2] 37)).drewN nq = w0 := ⟨_, rfl⟩
  have B0 := Lib.hid (show Below w.heap.size w w0 by rw [← hw0]; exact below_drewN (balloc w _) nq)
  rw [hw0]
  clear hw0
  go_wp2_with fail
  refine (H1.out _ (HV.out.below B0.out) (HV2.out.below B0.out)).mono ?_
  rintro e w1 ⟨rfl, hb1⟩
  have B1 := Lib.hid (bnext B0.out hb1)
  clear hb1
  go_wp2_with fail
  refine (alive_any _).mono ?_
  rintro e w2 ⟨rfl, hb2⟩
  have B2 := Lib.hid (bnext B1.out hb2)
  clear hb2
  go_wp2_with fail
  go_ret
  exact ⟨rfl, B2.out⟩

set_option maxHeartbeats 1000000 in
theorem arg (w : World) (p : Nat) (hp : p < 18446744073709551616) (v : Value) (f : List Nat) (hv : Nums w v f) (v2 : Value) (g : List Nat) (hv2 : Nums w v2 g) (x : Nat) (hx : x < 18446744073709551616) (h : M.rgt p [f, g] = 0) (hc : ¬ x < p) :
    Calls Try.prog 12 #[.int .u64 p, .agg #[v, v2], .int .u64 x] w fun e w' => e = .returned (.bool true) ∧ Below w.heap.size w w' := by
  have HV := Lib.hid hv
  have HV2 := Lib.hid hv2
  have h1 := fun W (h1 : Nums W v f) (h2 : Nums W v2 g) => right_two p v v2 f g W hp h1 h2
  rw [h] at h1
  have H1 := Lib.hid h1
  obtain ⟨A, cap, rfl⟩ := nums_slice' hv
  obtain ⟨A2, cap2, rfl⟩ := nums_slice' hv2
  have hud : ∀ b : Bool, undef ≠ Value.bool b := fun b h => by cases h
  clear h hv hv2 h1
  go_enter Try.func12, Try.ntmps12
  go_wp2_with fail
  go_quiet (fail)
  obtain ⟨w0, hw0⟩ : ∃ w0, (w.alloc (.cells #[.slice A f.length cap, .slice A2 g.length cap2] 37)).drewN nq = w0 := ⟨_, rfl⟩
  have B0 := Lib.hid (show Below w.heap.size w w0 by rw [← hw0]; exact below_drewN (balloc w _) nq)
  rw [hw0]
  clear hw0
  go_wp2_with fail
  refine (H1.out _ (HV.out.below B0.out) (HV2.out.below B0.out)).mono ?_
  rintro e w1 ⟨rfl, hb1⟩
  have B1 := Lib.hid (bnext B0.out hb1)
  clear hb1
  go_wp2_with fail
  refine (alive_any _).mono ?_
  rintro e w2 ⟨rfl, hb2⟩
  have B2 := Lib.hid (bnext B1.out hb2)
  clear hb2
  go_wp2_with fail
  go_ret
  exact ⟨rfl, B2.out⟩

set_option maxHeartbeats 1000000 in
theorem ok_0 (w : World) (p : Nat) (hp : p < 18446744073709551616) (v : Value) (f : List Nat) (hv : Nums w v f) (v2 : Value) (g : List Nat) (hv2 : Nums w v2 g) (x : Nat) (hx : x < 18446744073709551616) (h : M.rgt p [f, g] = 0) (hc : x < p) (hL : (M.pmul p f g).length ≤ 201) :
    Calls Try.prog 12 #[.int .u64 p, .agg #[v, v2], .int .u64 x] w fun e w' => e = .returned (.bool true) ∧ Below w.heap.size w w' := by
  obtain ⟨hi, ⟨hlf, hwf⟩, hlg, hwg⟩ := M.rgt_ok h
  obtain ⟨h3, hp'⟩ := M.pos_of hi
  have hpos : 0 < p := by omega
  have HV := Lib.hid hv
  have HV2 := Lib.hid hv2
  have h1 := fun W (h1 : Nums W v f) (h2 : Nums W v2 g) => right_two p v v2 f g W hp h1 h2
  rw [h] at h1
  have ha := fun W (h1 : Nums W v f) (h2 : Nums W v2 g) => add2_ok p v v2 f g W h1 h2 h
  have hs := fun W (h1 : Nums W v f) (h2 : Nums W v2 g) => sub2_ok p v v2 f g W h1 h2 h
  have hm := fun W (h1 : Nums W v f) (h2 : Nums W v2 g) => (mul2_ok p v v2 f g W h1 h2 h).mono fun e w' hh => hh.1 hL
  have ka : M.chk p (M.padd p f g) 201 = 0 := M.chk_of hi (Nat.le_trans (M.poly_len _ _ _) (by omega)) (M.poly_within hpos _ _)
  have ks : M.chk p (M.psub p f g) 201 = 0 := M.chk_of hi (Nat.le_trans (M.poly_len _ _ _) (by omega)) (M.poly_within hpos _ _)
  have e1 := fun W (h1 : Nums W v f) => eval_ok p x v f W hc h1 (M.chk_of hi hlf hwf)
  have e2 := fun W (h1 : Nums W v2 g) => eval_ok p x v2 g W hc h1 (M.chk_of hi hlg hwg)
  have e3 := fun W u (h1 : Nums W u (M.padd p f g)) => eval_ok p x u _ W hc h1 ka
  have e4 := fun W u (h1 : Nums W u (M.psub p f g)) => eval_ok p x u _ W hc h1 ks
  rw [M.pev_add] at e3
  rw [M.pev_sub f g x hpos hwg] at e4
  have hal := M.pev_lt f x hpos
  have hbl := M.pev_lt g x hpos
  have km : M.chk p (M.pmul p f g) 201 = 0 := M.chk_of hi hL (M.poly_within hpos _ _)
  have e5 := fun W u (h1 : Nums W u (M.pmul p f g)) => eval_ok p x u _ W hc h1 km
  rw [M.pev_mul] at e5
  obtain ⟨a, ea⟩ : ∃ a, a = M.pev p f x := ⟨_, rfl⟩
  obtain ⟨b, eb⟩ : ∃ b, b = M.pev p g x := ⟨_, rfl⟩
  rw [← ea] at hal e1 e3 e4 e5
  rw [← eb] at hbl e2 e3 e4 e5
  have f3 := fun W => refAdd_any p a b W (by omega) hp' hal hbl
  have f4 := fun W => refSub_any p a b W (by omega) hp' hal hbl
  have f5 := fun W => refMul_any p a b W (by omega) hp' hal hbl
  obtain ⟨z1, ez1⟩ : ∃ z1, z1 = (a + b) % p := ⟨_, rfl⟩
  obtain ⟨z2, ez2⟩ : ∃ z2, z2 = (a + p - b) % p := ⟨_, rfl⟩
  rw [← ez1] at e3 f3
  rw [← ez2] at e4 f4
  have q1 : ((z1 : Int) == (z1 : Int)) = true := by simp
  have q2 : ((z2 : Int) == (z2 : Int)) = true := by simp
  obtain ⟨z3, ez3⟩ : ∃ z3, z3 = a * b % p := ⟨_, rfl⟩
  rw [← ez3] at e5 f5
  have q3 : ((z3 : Int) == (z3 : Int)) = true := by simp
  have H1 := Lib.hid h1
  have HA := Lib.hid ha
  have HS := Lib.hid hs
  have HM := Lib.hid hm
  have E1 := Lib.hid e1
  have E2 := Lib.hid e2
  have E3 := Lib.hid e3
  have E4 := Lib.hid e4
  have E5 := Lib.hid e5
  have F3 := Lib.hid f3
  have F4 := Lib.hid f4
  have F5 := Lib.hid f5
  obtain ⟨A, cap, rfl⟩ := nums_slice' hv
  obtain ⟨A2, cap2, rfl⟩ := nums_slice' hv2
  have hud : ∀ b : Bool, undef ≠ Value.bool b := fun b h => by cases h
  have hcn : ¬ p ≤ x := by omega
  clear h hv hv2 hi hwf hwg hL ka ks ea eb ez1 ez2 h1 ha hs hm e1 e2 e3 e4 e5 f3 f4 f5 km ez3
  go_enter Try.func12, Try.ntmps12
  go_wp2_with fail
  go_quiet (fail)
  obtain ⟨w0, hw0⟩ : ∃ w0, (w.alloc (.cells #[.slice A f.length cap, .slice A2 g.length cap2] 37)).drewN nq = w0 := ⟨_, rfl⟩
  have B0 := Lib.hid (show Below w.heap.size w w0 by rw [← hw0]; exact below_drewN (balloc w _) nq)
  rw [hw0]
  clear hw0
  go_wp2_with fail
  refine (H1.out _ (HV.out.below B0.out) (HV2.out.below B0.out)).mono ?_
  rintro e w1 ⟨rfl, hb1⟩
  have B1 := Lib.hid (bnext B0.out hb1)
  clear hb1
  go_wp2_with fail
  refine (E1.out _ (HV.out.below B1.out)).mono ?_
  rintro e w2 ⟨rfl, hb2⟩
  have B2 := Lib.hid (bnext B1.out hb2)
  clear hb2
  go_wp2_with fail
  refine (E2.out _ (HV2.out.below B2.out)).mono ?_
  rintro e w3 ⟨rfl, hb3⟩
  have B3 := Lib.hid (bnext B2.out hb3)
  clear hb3
  go_wp2_with fail
  refine (HA.out _ (HV.out.below B3.out) (HV2.out.below B3.out)).mono ?_
  rintro e w4 ⟨v4, rfl, hNA, hb4⟩
  have B4 := Lib.hid (bnext B3.out hb4)
  have NA := Lib.hid hNA
  clear hb4 hNA
  go_wp2_with fail
  refine (HS.out _ (HV.out.below B4.out) (HV2.out.below B4.out)).mono ?_
  rintro e w5 ⟨v5, rfl, hNS, hb5⟩
  have B5 := Lib.hid (bnext B4.out hb5)
  have NA_5 := Lib.hid (NA.out.below hb5)
  have NS := Lib.hid hNS
  clear hb5 hNS
  go_wp2_with fail
  refine (HM.out _ (HV.out.below B5.out) (HV2.out.below B5.out)).mono ?_
  rintro e w6 ⟨v6, rfl, hNM, hb6⟩
  have B6 := Lib.hid (bnext B5.out hb6)
  have NA_6 := Lib.hid (NA_5.out.below hb6)
  have NS_6 := Lib.hid (NS.out.below hb6)
  have NM := Lib.hid hNM
  clear hb6 hNM
  go_wp2_with fail
  refine (E3.out _ _ NA_6.out).mono ?_
  rintro e w7 ⟨rfl, hb7⟩
  have B7 := Lib.hid (bnext B6.out hb7)
  have NA_7 := Lib.hid (NA_6.out.below hb7)
  have NS_7 := Lib.hid (NS_6.out.below hb7)
  have NM_7 := Lib.hid (NM.out.below hb7)
  clear hb7
  go_wp2_with fail
  refine (E4.out _ _ NS_7.out).mono ?_
  rintro e w8 ⟨rfl, hb8⟩
  have B8 := Lib.hid (bnext B7.out hb8)
  have NA_8 := Lib.hid (NA_7.out.below hb8)
  have NS_8 := Lib.hid (NS_7.out.below hb8)
  have NM_8 := Lib.hid (NM_7.out.below hb8)
  clear hb8
  go_wp2_with fail
  refine (E5.out _ _ NM_8.out).mono ?_
  rintro e w9 ⟨rfl, hb9⟩
  have B9 := Lib.hid (bnext B8.out hb9)
  have NA_9 := Lib.hid (NA_8.out.below hb9)
  have NS_9 := Lib.hid (NS_8.out.below hb9)
  have NM_9 := Lib.hid (NM_8.out.below hb9)
  clear hb9
  go_wp2_with fail
  refine (F3.out _).mono ?_
  rintro e w' ⟨rfl, rfl⟩
  go_wp2_with fail
  refine (F4.out _).mono ?_
  rintro e w' ⟨rfl, rfl⟩
  go_wp2_with fail
  refine (F5.out _).mono ?_
  rintro e w' ⟨rfl, rfl⟩
  go_wp2_with fail
  refine (alive_any _).mono ?_
  rintro e w10 ⟨rfl, hb10⟩
  have B10 := Lib.hid (bnext B9.out hb10)
  have NA_10 := Lib.hid (NA_9.out.below hb10)
  have NS_10 := Lib.hid (NS_9.out.below hb10)
  have NM_10 := Lib.hid (NM_9.out.below hb10)
  clear hb10
  go_wp2_with fail
  go_ret
  exact ⟨rfl, B10.out⟩

set_option maxHeartbeats 1000000 in
theorem ok_1 (w : World) (p : Nat) (hp : p < 18446744073709551616) (v : Value) (f : List Nat) (hv : Nums w v f) (v2 : Value) (g : List Nat) (hv2 : Nums w v2 g) (x : Nat) (hx : x < 18446744073709551616) (h : M.rgt p [f, g] = 0) (hc : x < p) (hL : 201 < (M.pmul p f g).length) :
    Calls Try.prog 12 #[.int .u64 p, .agg #[v, v2], .int .u64 x] w fun e w' => e = .returned (.bool true) ∧ Below w.heap.size w w' := by
  obtain ⟨hi, ⟨hlf, hwf⟩, hlg, hwg⟩ := M.rgt_ok h
  obtain ⟨h3, hp'⟩ := M.pos_of hi
  have hpos : 0 < p := by omega
  have HV := Lib.hid hv
  have HV2 := Lib.hid hv2
  have h1 := fun W (h1 : Nums W v f) (h2 : Nums W v2 g) => right_two p v v2 f g W hp h1 h2
  rw [h] at h1
  have ha := fun W (h1 : Nums W v f) (h2 : Nums W v2 g) => add2_ok p v v2 f g W h1 h2 h
  have hs := fun W (h1 : Nums W v f) (h2 : Nums W v2 g) => sub2_ok p v v2 f g W h1 h2 h
  have hm := fun W (h1 : Nums W v f) (h2 : Nums W v2 g) => (mul2_ok p v v2 f g W h1 h2 h).mono fun e w' hh => hh.2 hL
  have ka : M.chk p (M.padd p f g) 201 = 0 := M.chk_of hi (Nat.le_trans (M.poly_len _ _ _) (by omega)) (M.poly_within hpos _ _)
  have ks : M.chk p (M.psub p f g) 201 = 0 := M.chk_of hi (Nat.le_trans (M.poly_len _ _ _) (by omega)) (M.poly_within hpos _ _)
  have e1 := fun W (h1 : Nums W v f) => eval_ok p x v f W hc h1 (M.chk_of hi hlf hwf)
  have e2 := fun W (h1 : Nums W v2 g) => eval_ok p x v2 g W hc h1 (M.chk_of hi hlg hwg)
  have e3 := fun W u (h1 : Nums W u (M.padd p f g)) => eval_ok p x u _ W hc h1 ka
  have e4 := fun W u (h1 : Nums W u (M.psub p f g)) => eval_ok p x u _ W hc h1 ks
  rw [M.pev_add] at e3
  rw [M.pev_sub f g x hpos hwg] at e4
  have hal := M.pev_lt f x hpos
  have hbl := M.pev_lt g x hpos
  have e5 := fun W (h1 : Nums W (.slice none 0 0) []) => eval_ok p x (.slice none 0 0) [] W hc h1 (M.chk_of hi (by simp) rfl)
  obtain ⟨a, ea⟩ : ∃ a, a = M.pev p f x := ⟨_, rfl⟩
  obtain ⟨b, eb⟩ : ∃ b, b = M.pev p g x := ⟨_, rfl⟩
  rw [← ea] at hal e1 e3 e4
  rw [← eb] at hbl e2 e3 e4
  have f3 := fun W => refAdd_any p a b W (by omega) hp' hal hbl
  have f4 := fun W => refSub_any p a b W (by omega) hp' hal hbl
  obtain ⟨z1, ez1⟩ : ∃ z1, z1 = (a + b) % p := ⟨_, rfl⟩
  obtain ⟨z2, ez2⟩ : ∃ z2, z2 = (a + p - b) % p := ⟨_, rfl⟩
  rw [← ez1] at e3 f3
  rw [← ez2] at e4 f4
  have q1 : ((z1 : Int) == (z1 : Int)) = true := by simp
  have q2 : ((z2 : Int) == (z2 : Int)) = true := by simp
  have H1 := Lib.hid h1
  have HA := Lib.hid ha
  have HS := Lib.hid hs
  have HM := Lib.hid hm
  have E1 := Lib.hid e1
  have E2 := Lib.hid e2
  have E3 := Lib.hid e3
  have E4 := Lib.hid e4
  have E5 := Lib.hid e5
  have F3 := Lib.hid f3
  have F4 := Lib.hid f4
  obtain ⟨A, cap, rfl⟩ := nums_slice' hv
  obtain ⟨A2, cap2, rfl⟩ := nums_slice' hv2
  have hud : ∀ b : Bool, undef ≠ Value.bool b := fun b h => by cases h
  have hcn : ¬ p ≤ x := by omega
  clear h hv hv2 hi hwf hwg hL ka ks ea eb ez1 ez2 h1 ha hs hm e1 e2 e3 e4 e5 f3 f4
  go_enter Try.func12, Try.ntmps12
  go_wp2_with fail
  go_quiet (fail)
  obtain ⟨w0, hw0⟩ : ∃ w0, (w.alloc (.cells #[.slice A f.length cap, .slice A2 g.length cap2] 37)).drewN nq = w0 := ⟨_, rfl⟩
  have B0 := Lib.hid (show Below w.heap.size w w0 by rw [← hw0]; exact below_drewN (balloc w _) nq)
  rw [hw0]
  clear hw0
  go_wp2_with fail
  refine (H1.out _ (HV.out.below B0.out) (HV2.out.below B0.out)).mono ?_
  rintro e w1 ⟨rfl, hb1⟩
  have B1 := Lib.hid (bnext B0.out hb1)
  clear hb1
  go_wp2_with fail
  refine (E1.out _ (HV.out.below B1.out)).mono ?_
  rintro e w2 ⟨rfl, hb2⟩
  have B2 := Lib.hid (bnext B1.out hb2)
  clear hb2
  go_wp2_with fail
  refine (E2.out _ (HV2.out.below B2.out)).mono ?_
  rintro e w3 ⟨rfl, hb3⟩
  have B3 := Lib.hid (bnext B2.out hb3)
  clear hb3
  go_wp2_with fail
  refine (HA.out _ (HV.out.below B3.out) (HV2.out.below B3.out)).mono ?_
  rintro e w4 ⟨v4, rfl, hNA, hb4⟩
  have B4 := Lib.hid (bnext B3.out hb4)
  have NA := Lib.hid hNA
  clear hb4 hNA
  go_wp2_with fail
  refine (HS.out _ (HV.out.below B4.out) (HV2.out.below B4.out)).mono ?_
  rintro e w5 ⟨v5, rfl, hNS, hb5⟩
  have B5 := Lib.hid (bnext B4.out hb5)
  have NA_5 := Lib.hid (NA.out.below hb5)
  have NS := Lib.hid hNS
  clear hb5 hNS
  go_wp2_with fail
  refine (HM.out _ (HV.out.below B5.out) (HV2.out.below B5.out)).mono ?_
  rintro e w6 ⟨rfl, hb6⟩
  have B6 := Lib.hid (bnext B5.out hb6)
  have NA_6 := Lib.hid (NA_5.out.below hb6)
  have NS_6 := Lib.hid (NS.out.below hb6)
  clear hb6
  go_wp2_with fail
  refine (E3.out _ _ NA_6.out).mono ?_
  rintro e w7 ⟨rfl, hb7⟩
  have B7 := Lib.hid (bnext B6.out hb7)
  have NA_7 := Lib.hid (NA_6.out.below hb7)
  have NS_7 := Lib.hid (NS_6.out.below hb7)
  clear hb7
  go_wp2_with fail
  refine (E4.out _ _ NS_7.out).mono ?_
  rintro e w8 ⟨rfl, hb8⟩
  have B8 := Lib.hid (bnext B7.out hb8)
  have NA_8 := Lib.hid (NA_7.out.below hb8)
  have NS_8 := Lib.hid (NS_7.out.below hb8)
  clear hb8
  go_wp2_with fail
  refine (E5.out _ (nums_row_nil' _)).mono ?_
  rintro e w9 ⟨rfl, hb9⟩
  have B9 := Lib.hid (bnext B8.out hb9)
  have NA_9 := Lib.hid (NA_8.out.below hb9)
  have NS_9 := Lib.hid (NS_8.out.below hb9)
  clear hb9
  go_wp2_with fail
  refine (F3.out _).mono ?_
  rintro e w' ⟨rfl, rfl⟩
  go_wp2_with fail
  refine (F4.out _).mono ?_
  rintro e w' ⟨rfl, rfl⟩
  go_wp2_with fail
  refine (alive_any _).mono ?_
  rintro e w10 ⟨rfl, hb10⟩
  have B10 := Lib.hid (bnext B9.out hb10)
  have NA_10 := Lib.hid (NA_9.out.below hb10)
  have NS_10 := Lib.hid (NS_9.out.below hb10)
  clear hb10
  go_wp2_with fail
  go_ret
  exact ⟨rfl, B10.out⟩

set_option maxHeartbeats 1000000 in
theorem walk (w : World) (p : Nat) (hp : p < 18446744073709551616) (v : Value) (f : List Nat) (hv : Nums w v f) (v2 : Value) (g : List Nat) (hv2 : Nums w v2 g) (x : Nat) (hx : x < 18446744073709551616) :
    Calls Try.prog 12 #[.int .u64 p, .agg #[v, v2], .int .u64 x] w fun e w' => e = .returned (.bool true) ∧ Below w.heap.size w w' := by
  by_cases h : M.rgt p [f, g] = 0
  · by_cases hc : x < p
    · rcases Nat.lt_or_ge 201 (M.pmul p f g).length with hL | hL
      · exact ok_1 w p hp v f hv v2 g hv2 x hx h hc hL
      · exact ok_0 w p hp v f hv v2 g hv2 x hx h hc hL
    · exact arg w p hp v f hv v2 g hv2 x hx h hc
  · exact err w p hp v f hv v2 g hv2 x hx h
end Go.Proofs.Ytafoonhmfieikaa.polyValuedW
