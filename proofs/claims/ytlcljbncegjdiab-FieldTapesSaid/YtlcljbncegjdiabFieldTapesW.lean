/-
  The walk of the law FieldTapes.
-/
import Derived.Test.YtlcljbncegjdiabRefB
import Derived.Test.YtlcljbncegjdiabAppend
import Derived.Deep.QuietTactic
import Derived.BigQuiet
namespace Go.Proofs.Ytlcljbncegjdiab.fieldTapesW
open Go.RowKit
set_option linter.unusedVariables false

set_option maxHeartbeats 1000000 in
theorem walk_np (w : World) (p : Nat) (v : Value) (zs : List Nat) (m n : Nat) (hp : p < 18446744073709551616) (hv : Nums w v zs) (hm : m < 256) (hn : n < 256) (hi : M.isP p = false) :
    Calls Try.prog 8 #[.int .u64 p, v, .agg #[.int .u8 m, .int .u8 n]] w fun e w' => e = .returned (.bool true) ∧ Below w.heap.size w w' := by
  have HV := Lib.hid hv
  have HZ := Lib.hid hv.1
  have HLEN := Lib.hid hv.2.1
  have hD : ∀ wx (k : Int), Calls Try.prog 18 #[.int .u64 p, v, .int .i64 k] wx fun e w' => e = .returned (.tuple #[.slice none 0 0, .slice none 0 0, .int .i64 2]) ∧ wx = w' := by
    obtain ⟨a0, len0, cap0, hs0⟩ := nums_open hv
    intro wx k
    exact draw_bad p v k wx hp (.inl hi) a0 len0 cap0 hs0
  have HD := Lib.hid hD
  have HD0 := Lib.hid fun wx (k : Int) => draw_bad p (.slice none 0 0) k wx hp (.inl hi) none 0 0 rfl
  have hI := fun wx => refIs_any p wx hp
  rw [hi] at hI
  have HI := Lib.hid hI
  clear hI hi hv hp hD
  go_enter Try.func8, Try.ntmps8
  go_wp2_with fail
  go_quiet (fail)
  have B0 := Lib.hid (below_drewN (balloc w (.cells #[.int .u8 m, .int .u8 n] 49)) nq)
  generalize (w.alloc (.cells #[.int .u8 m, .int .u8 n] 49)).drewN nq = w0 at *
  go_wp2_with (at_builtin; refine wpList_append_nums rfl (.tmp 23) (.tmp 24) rfl w0.heap.size _ 0 [] rfl (World.ownsRow_made w0 #[] 0 (Nat.le_refl _) (by decide) rfl) v zs rfl ((HV.out.below B0.out).below (balloc _ _)) ?c1 ?c2 ?_)
  case c1 => have := HLEN.out; omega
  case c2 => simp
  intro was w1 hown1 hbw1
  have HWAS := Lib.hid (nums_of_owns (zs := zs) (by simpa [vals] using hown1) HZ.out HLEN.out)
  have B1 := Lib.hid (bnext B0.out ((balloc w0 (.cells #[] 22)).trans hbw1))
  clear hown1 hbw1 B0
  go_wp2_with fail
  refine (HD.out _ _).mono ?_
  rintro e w' ⟨rfl, rfl⟩
  go_wp2_with fail
  refine (HD0.out _ _).mono ?_
  rintro e w' ⟨rfl, rfl⟩
  go_wp2_with fail
  refine (HD.out _ _).mono ?_
  rintro e w' ⟨rfl, rfl⟩
  go_wp2_with fail
  refine (HI.out _).mono ?_
  rintro e w' ⟨rfl, rfl⟩
  go_wp2_with fail
  refine (alive_any _).mono ?_
  rintro e w2 ⟨rfl, hb2⟩
  have B2 := Lib.hid (bnext B1.out hb2)
  clear hb2 B1
  go_wp2_with fail
  go_ret
  exact ⟨rfl, B2.out⟩

set_option maxHeartbeats 1000000 in
theorem walk_ok (w : World) (p : Nat) (v : Value) (zs : List Nat) (m n : Nat) (hv : Nums w v zs) (hm : m < 256) (hn : n < 256) (hi : M.isP p = true) :
    Calls Try.prog 8 #[.int .u64 p, v, .agg #[.int .u8 m, .int .u8 n]] w fun e w' => e = .returned (.bool true) ∧ Below w.heap.size w w' := by
  obtain ⟨h3, hp⟩ := M.pos_of hi
  have HV := Lib.hid hv
  have HZ := Lib.hid hv.1
  have HLEN := Lib.hid hv.2.1
  have HD := Lib.hid fun vx zx wx (k : Nat) (hk : k < 256) hN => draw_any p k vx zx wx hi (by omega) hN
  have hD3 := fun wx hN => draw_any p (m + n) v zs wx hi (by omega) hN
  rw [Int.natCast_add] at hD3
  have HD3 := Lib.hid hD3
  have hI := fun wx => refIs_any p wx (by omega)
  rw [hi] at hI
  have HI := Lib.hid hI
  have HLA := Lib.hid (drawn_len p zs m)
  have HLB := Lib.hid (drawn_len p (zs.drop m) n)
  have HAPP := Lib.hid (drawn_app p m n zs)
  have hlt := fun z k => drawn_lt p z k (by omega) (by omega)
  have HLT := Lib.hid hlt
  have HS1 : Hid (0 + (drawn p zs m).length ≤ 17592186043904) := Lib.hid (by rw [drawn_len]; omega)
  have HS2 : Hid (0 + (drawn p zs m).length + (drawn p (zs.drop m) n).length ≤ 17592186043904) := Lib.hid (by rw [drawn_len, drawn_len]; omega)
  have HDD : Hid ((zs.drop m).drop n = zs.drop (m + n)) := Lib.hid (by rw [List.drop_drop])
  clear hI hi hv hp h3 hD3 hlt
  go_enter Try.func8, Try.ntmps8
  go_wp2_with fail
  go_quiet (fail)
  have B0 := Lib.hid (below_drewN (balloc w (.cells #[.int .u8 m, .int .u8 n] 49)) nq)
  generalize (w.alloc (.cells #[.int .u8 m, .int .u8 n] 49)).drewN nq = w0 at *
  go_wp2_with (at_builtin; refine wpList_append_nums rfl (.tmp 23) (.tmp 24) rfl w0.heap.size _ 0 [] rfl (World.ownsRow_made w0 #[] 0 (Nat.le_refl _) (by decide) rfl) v zs rfl ((HV.out.below B0.out).below (balloc _ _)) ?c1 ?c2 ?_)
  case c1 => have := HLEN.out; omega
  case c2 => simp
  intro was w1 hown1 hbw1
  have HWAS := Lib.hid (nums_of_owns (zs := zs) (by simpa [vals] using hown1) HZ.out HLEN.out)
  have B1 := Lib.hid (bnext B0.out ((balloc w0 (.cells #[] 22)).trans hbw1))
  clear hown1 hbw1 B0
  go_wp2_with fail
  refine (HD.out _ zs _ m hm (HV.out.below B1.out)).mono ?_
  rintro e w2 ⟨va, vr, rfl, ha, hr, hb2⟩
  change Nums w2 va (drawn p zs m) at ha
  have HA := Lib.hid ha
  have HR := Lib.hid hr
  have HWAS2 := Lib.hid (HWAS.out.below hb2)
  have B2 := Lib.hid (bnext B1.out hb2)
  clear ha hr hb2 HWAS B1
  go_wp2_with fail
  refine (HD.out _ (zs.drop m) _ n hn HR.out).mono ?_
  rintro e w3 ⟨vb, ve, rfl, hb, he, hb3⟩
  change Nums w3 vb (drawn p (zs.drop m) n) at hb
  have HB := Lib.hid hb
  have HE := Lib.hid he
  have HA3 := Lib.hid (HA.out.below hb3)
  have HWAS3 := Lib.hid (HWAS2.out.below hb3)
  have B3 := Lib.hid (bnext B2.out hb3)
  clear hb he hb3 HA HR HWAS2 B2
  go_wp2_with fail
  refine (HD3.out _ (HV.out.below B3.out)).mono ?_
  rintro e w4 ⟨vl, vf, rfl, hl, hf, hb4⟩
  change Nums w4 vl (drawn p zs (m + n)) at hl
  have HL := Lib.hid hl
  have HF := Lib.hid hf
  have HA4 := Lib.hid (HA3.out.below hb4)
  have HB4 := Lib.hid (HB.out.below hb4)
  have HE4 := Lib.hid (HE.out.below hb4)
  have HWAS4 := Lib.hid (HWAS3.out.below hb4)
  have B4 := Lib.hid (bnext B3.out hb4)
  clear hl hf hb4 HA3 HB HE HWAS3 B3
  go_wp2_with fail
  refine (HI.out _).mono ?_
  rintro e w' ⟨rfl, rfl⟩
  go_wp2_with (first | (at_builtin; refine wpList_append_nums rfl (.tmp 83) (.tmp 84) rfl w4.heap.size _ 0 [] rfl (World.ownsRow_made w4 #[] 0 (Nat.le_refl _) (by decide) rfl) va (drawn p zs m) rfl (HA4.out.below (balloc _ _)) HS1.out (by simp) ?_; intro x5 w5 hown5 hbw5; have HO5 := Lib.hid hown5; have HB5 := Lib.hid hbw5; clear hown5 hbw5) | (at_builtin; refine wpList_append_nums rfl (.tmp 85) (.tmp 86) rfl w4.heap.size _ _ _ rfl HO5.out vb (drawn p (zs.drop m) n) rfl (HB4.out.at (Nat.le_refl _) HB5.out (HB4.out.below (balloc _ _))) HS2.out (by have := HB5.out.size; simp at this; omega) ?_; intro x6 w6 hown6 hbw6; have HO6 := Lib.hid hown6; have HB6 := Lib.hid hbw6; clear hown6 hbw6))
  have B6 := Lib.hid (bnext B4.out (((balloc w4 (.cells #[] 22)).trans HB5.out).trans HB6.out))
  have HW6 := Lib.hid (((balloc w4 (.cells #[] 22)).trans HB5.out).trans HB6.out)
  have HX6 : Nums w6 x6 (drawn p zs (m + n)) := by
    have h := HO6.out
    rw [List.nil_append, ← vals_app, ← HAPP.out] at h
    exact nums_of_owns h (HLT.out _ _) (by rw [drawn_len]; omega)
  have HX := Lib.hid HX6
  have HL6 := Lib.hid (HL.out.below HW6.out)
  have HE6 := Lib.hid (HE4.out.below HW6.out)
  have HF6 := Lib.hid (HF.out.below HW6.out)
  have HWAS6 := Lib.hid (HWAS4.out.below HW6.out)
  clear HX6
  go_wp2_with fail
  refine (same_any _ _ _ _ HX.out HL6.out).mono ?_
  rintro e w7 ⟨rfl, hb7⟩
  have B7 := Lib.hid (bnext B6.out hb7)
  have he7 := HE6.out.below hb7
  rw [HDD.out] at he7
  have HE7 := Lib.hid he7
  have HF7 := Lib.hid (HF6.out.below hb7)
  have HWAS7 := Lib.hid (HWAS6.out.below hb7)
  clear hb7 he7
  go_wp2_with fail
  refine (same_any _ _ _ _ HE7.out HF7.out).mono ?_
  rintro e w8 ⟨rfl, hb8⟩
  have B8 := Lib.hid (bnext B7.out hb8)
  have HWAS8 := Lib.hid (HWAS7.out.below hb8)
  clear hb8
  go_wp2_with fail
  refine (same_any _ _ _ _ (HV.out.below B8.out) HWAS8.out).mono ?_
  rintro e w9 ⟨rfl, hb9⟩
  have B9 := Lib.hid (bnext B8.out hb9)
  clear hb9
  go_wp2_with fail
  refine (alive_any _).mono ?_
  rintro e w10 ⟨rfl, hb10⟩
  have B10 := Lib.hid (bnext B9.out hb10)
  clear hb10 B9
  go_wp2_with fail
  go_ret
  exact ⟨rfl, B10.out⟩

theorem walk (w : World) (p : Nat) (hp : p < 18446744073709551616) (v : Value) (zs : List Nat) (hv : Nums w v zs) (m : Nat) (hm : m < 256) (n : Nat) (hn : n < 256) :
    Calls Try.prog 8 #[.int .u64 p, v, .agg #[.int .u8 m, .int .u8 n]] w fun e w' => e = .returned (.bool true) ∧ Below w.heap.size w w' := by
  cases hi : M.isP p with
  | false => exact walk_np w p v zs m n hp hv hm hn hi
  | true => exact walk_ok w p v zs m n hv hm hn hi
end Go.Proofs.Ytlcljbncegjdiab.fieldTapesW
