/-
  Package pair of the program: Add and Lift.
-/
import Derived.Test.YtglehjcohdjhoaaPp5b
import Derived.Test.YtglehjcohdjhoaaL6
import Derived.Test.YtglehjcohdjhoaaPcM
namespace Go.Proofs.Ytglehjcohdjhoaa
open Go.RowKit
set_option linter.unusedVariables false
set_option maxRecDepth 100000

/-- a matrix and the error 0, or no matrix and the error -/
def PM (w : World) (c : Int) (m : List (List Nat)) (e : Ending) (w' : World) : Prop :=
  (c ≠ 0 ∧ e = .returned (.tuple #[.slice none 0 0, .int .i64 c]) ∧ Below w.heap.size w w') ∨ (c = 0 ∧ ∃ v, e = .returned (.tuple #[v, .int .i64 0]) ∧ Mat w' v m ∧ Below w.heap.size w w')
/-- the code of Check for two -/
def M.pchk2 (p : Nat) (t : Int) (m m2 : List (List Nat)) : Int := if M.pchk p t m = 0 then M.pchk p t m2 else M.pchk p t m

set_option maxHeartbeats 400000 in
theorem add1_call (b i k n : Nat) (v : Value) (m : List (List Nat)) (w : World) (hv : Mat w v m) (hb : w.cell? ⟨b, 0, none⟩ = some v) (hi : i < n) (hk : k < n) (hml : m.length = n) (hr : (m.getD i []).length = n) :
    Calls Try.prog 67 #[.int .i64 i, .int .i64 k, .pointer (some ⟨b, 0, none⟩)] w fun e w' => e = .returned (.int .u64 (M.el m i k : Nat)) ∧ Below w.heap.size w w' := by
  obtain ⟨A, cap, rfl, _⟩ := mat_view6 hv
  rw [hml] at hv hb
  have hrw := (mat_row hv).2
  obtain ⟨b2, off, rfl, hbl, hcells⟩ := hrw (by omega)
  obtain ⟨Au, cu, ck, hN, hrow⟩ := hcells i (by rw [hml]; exact hi)
  rw [hr] at ck hN hrow
  obtain ⟨g, o, rfl, hg, hcel⟩ := hrow (by omega)
  have ce := hcel k hk
  obtain ⟨x, ex⟩ : ∃ x, x = M.el m i k := ⟨_, rfl⟩
  rw [← ex] at ce ⊢
  have j1 : (i : Int) < (n : Nat) := by omega
  have j2 : (k : Int) < (n : Nat) := by omega
  clear hv hrw hcells hN hrow hcel ex hml hr
  go_enter Try.func67, Try.ntmps67
  go_wp2_with fail
  go_ret
  exact ⟨rfl, Below.refl _ _⟩

set_option maxHeartbeats 400000 in
theorem lift1_call (b1 b2 b3 i k p K n : Nat) (v : Value) (zs : List Nat) (w : World) (h3 : 3 ≤ p) (hp : p ≤ 65537) (hK : K < p) (hv : Nums w v zs) (hw : M.within p zs = true) (hl : zs.length = n) (hb1 : w.cell? ⟨b1, 0, none⟩ = some v) (hb2 : w.cell? ⟨b2, 0, none⟩ = some (.int .u64 (p : Nat))) (hb3 : w.cell? ⟨b3, 0, none⟩ = some (.int .u64 (K : Nat))) (hi : i < n) (hk : k < n) :
    Calls Try.prog 69 #[.int .i64 i, .int .i64 k, .pointer (some ⟨b1, 0, none⟩), .pointer (some ⟨b2, 0, none⟩), .pointer (some ⟨b3, 0, none⟩)] w fun e w' => e = .returned (.int .u64 (zs.getD i 0 * zs.getD k 0 % p * K % p : Nat)) ∧ Below w.heap.size w w' := by
  have hx := M.within_mem hw (show i < zs.length by omega)
  have hy := M.within_mem hw (show k < zs.length by omega)
  obtain ⟨A, cap, rfl, _, _, hC⟩ := nums_view hv
  obtain ⟨b, off, rfl, hbl, hcell⟩ := hC (by omega)
  have c1 := hcell i (by omega)
  have c2 := hcell k (by omega)
  rw [hl] at hb1
  obtain ⟨x, ex⟩ : ∃ x, x = zs.getD i 0 := ⟨_, rfl⟩
  obtain ⟨y, ey⟩ : ∃ y, y = zs.getD k 0 := ⟨_, rfl⟩
  rw [← ex] at c1 hx ⊢
  rw [← ey] at c2 hy ⊢
  have hxy : x * y ≤ 65536 * 65536 := Nat.mul_le_mul (by omega) (by omega)
  obtain ⟨a, ea⟩ : ∃ a, a = x * y % p := ⟨_, rfl⟩
  have ha : a < p := by rw [ea]; exact Nat.mod_lt _ (by omega)
  have haK : a * K ≤ 65536 * 65536 := Nat.mul_le_mul (by omega) (by omega)
  have e2 : ((x : Int) * (y : Int)) % (p : Int) = (a : Nat) := by rw [ea]; simp
  have e3 : 0 ≤ (a : Int) * (K : Int) ∧ (a : Int) * (K : Int) ≤ 4294967296 := ⟨by rw [← Int.natCast_mul]; omega, by rw [← Int.natCast_mul]; omega⟩
  have e4 : 0 ≤ (x : Int) * (y : Int) ∧ (x : Int) * (y : Int) ≤ 4294967296 := ⟨by rw [← Int.natCast_mul]; omega, by rw [← Int.natCast_mul]; omega⟩
  have hp0 : ((p : Int) == 0) = false := by simp; omega
  have j1 : (i : Int) < (n : Nat) := by omega
  have j2 : (k : Int) < (n : Nat) := by omega
  have E := Lib.hid (show (a * K % p : Nat) = x * y % p * K % p by rw [ea])
  clear hv hC hcell ex ey ea hw hl
  go_enter Try.func69, Try.ntmps69
  go_wp2_with fail
  go_region
  go_wp2_with fail
  go_ret
  exact ⟨ret1 (by rw [← E.out]; simp), (Below.refl _ _).drew⟩

theorem M.POk.el_any {p n : Nat} {m : List (List Nat)} (h : M.POk p n m) (hp : 0 < p) (i k : Nat) : M.el m i k < p := by
  by_cases hi : i < n
  · by_cases hk : k < n
    · exact h.el_lt hi hk
    · unfold M.el; rw [M.getD_ge (l := m.getD i []) (by rw [h.rows i hi]; omega)]; exact hp
  · unfold M.el
    rw [show m.getD i [] = [] by rw [List.getD_eq_getElem?_getD, List.getElem?_eq_none (by rw [h.len]; omega)]; rfl]
    exact hp

set_option maxHeartbeats 1000000 in
theorem padd_any (p : Nat) (t : Int) (v v2 : Value) (m m2 : List (List Nat)) (w : World) (hp : p < 18446744073709551616) (h1 : -9223372036854775808 ≤ t) (h2 : t ≤ 9223372036854775807) (hv : Mat w v m) (hv2 : Mat w v2 m2) :
    Calls Try.prog 34 #[.int .u64 p, .int .i64 t, v, v2] w (PM w (M.pchk2 p t m m2) (M.tabMM (t.toNat + 1) (t.toNat + 1) fun i k => (M.el m i k + M.el m2 i k) % p)) := by
  have hud : ∀ b : Bool, undef ≠ Value.bool b := fun b h => by cases h
  have CH1 := Lib.hid fun (W : World) (b : Below w.heap.size w W) => pcheck_any p t v m W hp h1 h2 (hv.below b)
  have CH2 := Lib.hid fun (W : World) (b : Below w.heap.size w W) => pcheck_any p t v2 m2 W hp h1 h2 (hv2.below b)
  have HV := Lib.hid hv
  have HV2 := Lib.hid hv2
  obtain ⟨A, cap, rfl, _⟩ := mat_view6 hv
  obtain ⟨A2, cap2, rfl, _⟩ := mat_view6 hv2
  have hcb0 : ((0 : Int) != 0) = false := rfl
  by_cases hc1 : M.pchk p t m = 0
  case neg =>
    have HE := Lib.hid (show M.pchk2 p t m m2 = M.pchk p t m by unfold M.pchk2; rw [if_neg hc1])
    obtain ⟨c, ec⟩ : ∃ c, c = M.pchk p t m := ⟨_, rfl⟩
    rw [← ec] at CH1 HE hc1
    have hcb : (c != 0) = true := by rw [bne_iff_ne]; exact hc1
    have HC := Lib.hid hc1
    clear ec hc1 hv hv2
    go_enter Try.func34, Try.ntmps34
    go_wp2_with fail
    refine (CH1.out _ (balloc w _)).mono ?_
    rintro e w1 ⟨rfl, hb⟩
    have B1 := Lib.hid (bnext (balloc w _) hb)
    clear hb
    go_wp2_with fail
    go_ret2
    exact .inl ⟨by rw [HE.out]; exact HC.out, by rw [HE.out]; rfl, B1.out⟩
  by_cases hc2 : M.pchk p t m2 = 0
  case neg =>
    have HE := Lib.hid (show M.pchk2 p t m m2 = M.pchk p t m2 by unfold M.pchk2; rw [if_pos hc1])
    obtain ⟨c, ec⟩ : ∃ c, c = M.pchk p t m2 := ⟨_, rfl⟩
    rw [← ec] at CH2 HE hc2
    rw [hc1] at CH1
    have hcb : (c != 0) = true := by rw [bne_iff_ne]; exact hc2
    have HC := Lib.hid hc2
    clear ec hc1 hc2 hv hv2
    go_enter Try.func34, Try.ntmps34
    go_wp2_with fail
    refine (CH1.out _ (balloc w _)).mono ?_
    rintro e w1 ⟨rfl, hb⟩
    have B1 := Lib.hid (bnext (balloc w _) hb)
    have q1 := (hb.cell (p := ⟨w.heap.size, 0, none⟩) (by simp)).trans (show _ = some (.slice A2 m2.length cap2) by simp)
    clear hb
    go_wp2_with fail
    refine (CH2.out _ B1.out).mono ?_
    rintro e w2 ⟨rfl, hb⟩
    have B2 := Lib.hid (bnext B1.out hb)
    clear hb
    go_wp2_with fail
    go_ret2
    exact .inl ⟨by rw [HE.out]; exact HC.out, by rw [HE.out]; rfl, B2.out⟩
  have HE := Lib.hid (show M.pchk2 p t m m2 = 0 by unfold M.pchk2; rw [if_pos hc1, hc2])
  rw [hc1] at CH1
  rw [hc2] at CH2
  obtain ⟨T, rfl, hT, hi, hm⟩ := M.pchk_zero hc1
  obtain ⟨T', eT, _, _, hm2⟩ := M.pchk_zero hc2
  obtain rfl : T = T' := by omega
  obtain ⟨h3, hp5⟩ := M.pos_of hi
  rw [Int.toNat_natCast]
  have HM := Lib.hid hm
  have HM2 := Lib.hid hm2
  clear hc1 hc2 hv hv2 hm hm2 hi eT
  go_enter Try.func34, Try.ntmps34
  go_wp2_with fail
  refine (CH1.out _ (balloc w _)).mono ?_
  rintro e w1 ⟨rfl, hb⟩
  have B1 := Lib.hid (bnext (balloc w _) hb)
  have q1 := (hb.cell (p := ⟨w.heap.size, 0, none⟩) (by simp)).trans (show _ = some (.slice A2 m2.length cap2) by simp)
  have hs1 : w.heap.size < w1.heap.size := by have := hb.size; simp at this; omega
  clear hb
  go_wp2_with fail
  refine (CH2.out _ B1.out).mono ?_
  rintro e w2 ⟨rfl, hb⟩
  have B2 := Lib.hid (bnext B1.out hb)
  have q2 := (hb.cell (p := ⟨w.heap.size, 0, none⟩) hs1).trans q1
  have hs2 : w.heap.size < w2.heap.size := by have := hb.size; omega
  have CG := Lib.hid (changedAdd p (T + 1) (M.el m2) _ m w.heap.size w2 h3 hp5 (by omega) (by omega) HM.out (HV.out.below B2.out) (fun i k => HM2.out.el_any (by omega) i k) (fun i k W hi hk hW => add1_call w.heap.size i k (T + 1) _ m2 W ((HV2.out.below B2.out).below hW) ((hW.cell (p := ⟨w.heap.size, 0, none⟩) hs2).trans q2) hi hk HM2.out.len (HM2.out.rows i hi)))
  clear hb q1 hs1
  go_wp2_with fail
  refine CG.out.mono ?_
  rintro e w3 ⟨v3, rfl, hm3, hb⟩
  have B3 := Lib.hid (bnext B2.out hb)
  have HM3 := Lib.hid hm3
  obtain ⟨A3, cap3, rfl, _⟩ := mat_view6 hm3
  clear hb hm3
  go_wp2_with fail
  go_ret2
  exact .inr ⟨HE.out, _, rfl, HM3.out, B3.out⟩

/-- what Lift refuses -/
def M.liftC (p : Nat) (t : Int) (m : List (List Nat)) (k : Nat) (zs : List Nat) : Int := if M.pchk p t m = 0 then M.liftE p t.toNat k zs else M.pchk p t m
theorem M.liftE_zero {p T k : Nat} {zs : List Nat} (h : M.liftE p T k zs = 0) : k < p ∧ zs.length ≤ T + 1 ∧ M.within p zs = true := by
  unfold M.liftE at h
  split at h
  · cases h
  · split at h
    · cases h
    · refine ⟨by omega, by omega, ?_⟩
      unfold errOf at h
      split at h
      · assumption
      · cases h

set_option maxHeartbeats 2000000 in
theorem plift_any (p : Nat) (t : Int) (v : Value) (m : List (List Nat)) (k : Nat) (vz : Value) (zs : List Nat) (w : World) (hp : p < 18446744073709551616) (h1 : -9223372036854775808 ≤ t) (h2 : t ≤ 9223372036854775807) (hk : k < 18446744073709551616) (hv : Mat w v m) (hz : Nums w vz zs) :
    Calls Try.prog 36 #[.int .u64 p, .int .i64 t, v, .int .u64 k, vz] w (PM w (M.liftC p t m k zs) (M.tabMM (t.toNat + 1) (t.toNat + 1) (M.liftF p (M.el m) k zs))) := by
  have hud : ∀ b : Bool, undef ≠ Value.bool b := fun b h => by cases h
  have CH1 := Lib.hid fun (W : World) (b : Below w.heap.size w W) => pcheck_any p t v m W hp h1 h2 (hv.below b)
  have HV := Lib.hid hv
  have HZ := Lib.hid hz
  have BB := Lib.hid (bnext (balloc w (.cells #[.int .u64 (p : Nat)] 22)) (balloc _ (.cells #[.int .u64 (k : Nat)] 22)))
  obtain ⟨A, cap, rfl, _⟩ := mat_view6 hv
  obtain ⟨Az, cz, rfl⟩ := nums_slice' hz
  have hcb0 : ((0 : Int) != 0) = false := rfl
  by_cases hc1 : M.pchk p t m = 0
  case neg =>
    have HE := Lib.hid (show M.liftC p t m k zs = M.pchk p t m by unfold M.liftC; rw [if_neg hc1])
    obtain ⟨c, ec⟩ : ∃ c, c = M.pchk p t m := ⟨_, rfl⟩
    rw [← ec] at CH1 HE hc1
    have hcb : (c != 0) = true := by rw [bne_iff_ne]; exact hc1
    have HC := Lib.hid hc1
    clear ec hc1 hv hz
    go_enter Try.func36, Try.ntmps36
    go_wp2_with fail
    refine (CH1.out _ BB.out).mono ?_
    rintro e w1 ⟨rfl, hb⟩
    have B1 := Lib.hid (bnext BB.out hb)
    clear hb
    go_wp2_with fail
    go_ret2
    exact .inl ⟨by rw [HE.out]; exact HC.out, by rw [HE.out]; rfl, B1.out⟩
  have hlc : M.liftC p t m k zs = M.liftE p t.toNat k zs := by unfold M.liftC; rw [if_pos hc1]
  rw [hlc]
  rw [hc1] at CH1
  obtain ⟨T, rfl, hT, hi, hm⟩ := M.pchk_zero hc1
  obtain ⟨h3, hp5⟩ := M.pos_of hi
  rw [Int.toNat_natCast]
  have HM := Lib.hid hm
  have hw1 : IntKind.i64.wrap ((T : Int) + 1) = ((T + 1 : Nat) : Int) := by rw [IntKind.wrap_i64]; omega
  obtain ⟨n, en⟩ : ∃ n, T + 1 = n := ⟨_, rfl⟩
  rw [en] at hw1
  clear hc1 hv hz hm hi hlc
  have hs0 : w.heap.size ≠ w.heap.size + 1 := by omega
  by_cases hkp : p ≤ k
  · have HE := Lib.hid (show M.liftE p T k zs = 2 by unfold M.liftE; rw [if_pos hkp])
    have hd : decide ((k : Int) ≥ (p : Int)) = true := by rw [decide_eq_true_eq]; omega
    go_enter Try.func36, Try.ntmps36
    go_wp2_with fail
    refine (CH1.out _ BB.out).mono ?_
    rintro e w1 ⟨rfl, hb⟩
    have B1 := Lib.hid (bnext BB.out hb)
    have q1 := (hb.cell (p := ⟨w.heap.size, 0, none⟩) (by simp <;> omega)).trans (show _ = some (.int .u64 (p : Nat)) by simp)
    have q2 := (hb.cell (p := ⟨w.heap.size + 1, 0, none⟩) (by simp <;> omega)).trans (show _ = some (.int .u64 (k : Nat)) by simp)
    clear hb
    go_wp2_with fail
    go_ret2
    exact .inl ⟨by rw [HE.out]; decide, by rw [HE.out]; rfl, B1.out⟩
  have hd : decide ((k : Int) ≥ (p : Int)) = false := by rw [decide_eq_false_iff_not]; omega
  by_cases hzl : n < zs.length
  · have HE := Lib.hid (show M.liftE p T k zs = 3 by unfold M.liftE; rw [if_neg hkp, if_pos (by omega)])
    have hd2 : decide ((zs.length : Int) > (n : Int)) = true := by rw [decide_eq_true_eq]; omega
    go_enter Try.func36, Try.ntmps36
    go_wp2_with fail
    refine (CH1.out _ BB.out).mono ?_
    rintro e w1 ⟨rfl, hb⟩
    have B1 := Lib.hid (bnext BB.out hb)
    have q1 := (hb.cell (p := ⟨w.heap.size, 0, none⟩) (by simp <;> omega)).trans (show _ = some (.int .u64 (p : Nat)) by simp)
    have q2 := (hb.cell (p := ⟨w.heap.size + 1, 0, none⟩) (by simp <;> omega)).trans (show _ = some (.int .u64 (k : Nat)) by simp)
    clear hb
    go_wp2_with fail
    go_ret2
    exact .inl ⟨by rw [HE.out]; decide, by rw [HE.out]; rfl, B1.out⟩
  have hd2 : decide ((zs.length : Int) > (n : Int)) = false := by rw [decide_eq_false_iff_not]; omega
  have HEE := Lib.hid (show M.liftE p T k zs = errOf (M.within p zs) by unfold M.liftE; rw [if_neg hkp, if_neg (by omega)])
  have PB := Lib.hid fun (W : World) (b : Below w.heap.size w W) => pbelow_any p _ zs W (HZ.out.below b)
  cases hw : M.within p zs with
  | false =>
    rw [hw] at PB HEE
    have HE := Lib.hid (show M.liftE p T k zs = 2 from HEE.out)
    clear hw HEE
    go_enter Try.func36, Try.ntmps36
    go_wp2_with fail
    refine (CH1.out _ BB.out).mono ?_
    rintro e w1 ⟨rfl, hb⟩
    have B1 := Lib.hid (bnext BB.out hb)
    have q1 := (hb.cell (p := ⟨w.heap.size, 0, none⟩) (by simp <;> omega)).trans (show _ = some (.int .u64 (p : Nat)) by simp)
    have q2 := (hb.cell (p := ⟨w.heap.size + 1, 0, none⟩) (by simp <;> omega)).trans (show _ = some (.int .u64 (k : Nat)) by simp)
    clear hb
    go_wp2_with fail
    refine (PB.out _ B1.out).mono ?_
    rintro e w2 ⟨rfl, hb⟩
    have B2 := Lib.hid (bnext B1.out hb)
    clear hb
    go_wp2_with fail
    go_ret2
    exact .inl ⟨by rw [HE.out]; decide, by rw [HE.out]; rfl, B2.out⟩
  | true =>
    rw [hw] at PB HEE
    have HE := Lib.hid (show M.liftE p T k zs = 0 from HEE.out)
    have HW := Lib.hid hw
    have HPD := Lib.hid fun (W : World) (b : Below w.heap.size w W) => padded_any _ zs n W (by omega) (by omega) (HZ.out.below b)
    obtain ⟨zt, ezt⟩ : ∃ zt, zt = M.tabM n fun i => zs.getD i 0 := ⟨_, rfl⟩
    rw [← ezt] at HPD
    have HZT := Lib.hid ezt
    have hztl : zt.length = n := by rw [ezt]; simp [M.tabM]
    have hztw : M.within p zt = true := by rw [ezt]; exact M.within_tabM fun i _ => M.within_getD (by omega) hw i
    have HZL := Lib.hid hztl
    have HZW := Lib.hid hztw
    rw [en] at HM
    have EN := Lib.hid en
    rw [en]
    clear hw HEE en ezt hztl hztw
    go_enter Try.func36, Try.ntmps36
    go_wp2_with fail
    refine (CH1.out _ BB.out).mono ?_
    rintro e w1 ⟨rfl, hb⟩
    have B1 := Lib.hid (bnext BB.out hb)
    have q1 := (hb.cell (p := ⟨w.heap.size, 0, none⟩) (by simp <;> omega)).trans (show _ = some (.int .u64 (p : Nat)) by simp)
    have q2 := (hb.cell (p := ⟨w.heap.size + 1, 0, none⟩) (by simp <;> omega)).trans (show _ = some (.int .u64 (k : Nat)) by simp)
    have hs1 : w.heap.size + 1 < w1.heap.size := by have := hb.size; simp at this; omega
    clear hb
    go_wp2_with fail
    refine (PB.out _ B1.out).mono ?_
    rintro e w2 ⟨rfl, hb⟩
    have B2 := Lib.hid (bnext B1.out hb)
    have r1 := (hb.cell (p := ⟨w.heap.size, 0, none⟩) (by show w.heap.size < w1.heap.size; omega)).trans q1
    have r2 := (hb.cell (p := ⟨w.heap.size + 1, 0, none⟩) hs1).trans q2
    have hs2 : w.heap.size + 1 < w2.heap.size := by have := hb.size; exact Nat.lt_of_lt_of_le hs1 this
    clear hb q1 q2
    go_wp2_with fail
    refine (HPD.out _ B2.out).mono ?_
    rintro e w3 ⟨v3, rfl, hn3, hb⟩
    have B3 := Lib.hid (bnext B2.out hb)
    have s1 := (hb.cell (p := ⟨w.heap.size, 0, none⟩) (by show w.heap.size < w2.heap.size; omega)).trans r1
    have s2 := (hb.cell (p := ⟨w.heap.size + 1, 0, none⟩) hs2).trans r2
    have hs3 : w.heap.size + 1 < w3.heap.size := by have := hb.size; omega
    have HN3 := Lib.hid hn3
    obtain ⟨A3, c3, rfl⟩ := nums_slice' hn3
    have CG := Lib.hid (changedLift p n (fun i j => zt.getD i 0 * zt.getD j 0 % p * k % p) _ m w3.heap.size w.heap.size (w.heap.size + 1) (w3.alloc (.cells #[.slice A3 zt.length c3] 30)) h3 hp5 (by have := EN.out; omega) (by have := EN.out; omega) HM.out (HV.out.below (bnext B3.out (balloc w3 _))) (fun i j => Nat.mod_lt _ (by omega))
      (fun i j W hi hj hW => lift1_call w3.heap.size w.heap.size (w.heap.size + 1) i j p k n _ zt W h3 hp5 (by omega) ((HN3.out.below (balloc w3 _)).below hW) HZW.out HZL.out
        ((hW.cell (p := ⟨w3.heap.size, 0, none⟩) (by simp)).trans (by simp)) ((hW.cell (p := ⟨w.heap.size, 0, none⟩) (by simp; omega)).trans (((balloc w3 _).cell (p := ⟨w.heap.size, 0, none⟩) (by show w.heap.size < w3.heap.size; omega)).trans s1)) ((hW.cell (p := ⟨w.heap.size + 1, 0, none⟩) (by simp; omega)).trans (((balloc w3 _).cell (p := ⟨w.heap.size + 1, 0, none⟩) hs3).trans s2)) hi hj))
    have B4 := Lib.hid (bnext B3.out (balloc w3 (.cells #[.slice A3 zt.length c3] 30)))
    have u1 : (w3.alloc (.cells #[.slice A3 zt.length c3] 30)).cell? ⟨w.heap.size, 0, none⟩ = some (.int .u64 (p : Nat)) := ((balloc w3 _).cell (p := ⟨w.heap.size, 0, none⟩) (by show w.heap.size < w3.heap.size; omega)).trans s1
    have u2 : (w3.alloc (.cells #[.slice A3 zt.length c3] 30)).cell? ⟨w.heap.size + 1, 0, none⟩ = some (.int .u64 (k : Nat)) := ((balloc w3 _).cell (p := ⟨w.heap.size + 1, 0, none⟩) hs3).trans s2
    clear hb r1 r2 hn3 hs1 hs2
    go_wp2_with fail
    refine CG.out.mono ?_
    rintro e w4 ⟨v4, rfl, hm4, hb⟩
    have B5 := Lib.hid (bnext B4.out hb)
    have hmm : (M.tabMM n n fun i j => (M.el m i j + zt.getD i 0 * zt.getD j 0 % p * k % p) % p) = M.tabMM n n (M.liftF p (M.el m) k zs) := M.tabMM_congr fun i hi j hj => by
      unfold M.liftF
      rw [HZT.out, M.tabM_at _ hi, M.tabM_at _ hj, Nat.mul_comm k]
    have HM4 := Lib.hid (hmm ▸ hm4)
    obtain ⟨A4, c4, rfl, _⟩ := mat_view6 hm4
    clear hb hm4 hmm
    go_wp2_with fail
    go_ret2
    exact .inr ⟨HE.out, _, rfl, by simpa using HM4.out, B5.out⟩
end Go.Proofs.Ytglehjcohdjhoaa
