/-
  The reference of layer 2: Trim, at, Eval, Add, Scale, Sub.
-/
import Derived.Test.YtgoognipljknjaaP6
import Derived.Test.YtgoognipljknjaaApp2
import Derived.Test.YtgoognipljknjaaRootsM
namespace Go.Proofs.Ytgoognipljknjaa
open Go.RowKit
set_option linter.unusedVariables false

theorem nums_prefix0 {w : World} {A : Option Addr} {cap : Nat} {zs : List Nat} (h : Nums w (.slice A zs.length cap) zs) : Nums w (.slice A 0 cap) [] := by have := nums_prefix h (m := 0) (Nat.zero_le _); simpa using this

set_option maxHeartbeats 1000000 in
theorem rtrim_any (v : Value) (zs : List Nat) (w : World) (hv : Nums w v zs) :
    Calls Try.prog 53 #[v] w (Gives w (M.trim zs)) := by
  have HN := Lib.hid hv
  obtain ⟨A, cap, rfl, hcap, hlen, hC⟩ := nums_view hv
  have HV := Lib.hid hC
  have hud : ∀ b : Bool, undef ≠ Value.bool b := fun b h => by cases h
  clear hv hC
  go_enter Try.func53, Try.ntmps53
  go_wp2_with fail
  go_loop [3] (fun t => ∃ n : Nat, n ≤ zs.length ∧ t = .int .i64 n ∧ ∀ i, n ≤ i → zs.getD i 0 = 0) (fun t => (intOf t).toNat)
  case atStart => exact ⟨zs.length, Nat.le_refl _, rfl, fun i hi => M.getD_ge hi⟩
  case round =>
    obtain ⟨n, hn, rfl, hz⟩ := hrel
    have HZ := Lib.hid hz
    clear hz
    by_cases h0 : n = 0
    · subst h0
      have ht : M.trim zs = [] := M.trim_nil_iff.2 (fun i => HZ.out i (Nat.zero_le _))
      have HT := Lib.hid ht
      have hp0 := nums_prefix0 HN.out
      have HP := Lib.hid hp0
      clear ht hp0
      go_wp2_with (at_builtin; refine wpList_append_nums rfl (.tmp 18) (.tmp 21) rfl w.heap.size _ 0 [] rfl (World.ownsRow_made w #[] 0 (Nat.le_refl _) (by decide) rfl) _ [] rfl (HP.out.below (balloc w _)) (by simp) (by simp) ?_; intro v' w' hown hb; have HO := Lib.hid hown; have HBB := Lib.hid hb; clear hown hb)
      go_ret
      refine ⟨_, rfl, ?_, (balloc w _).trans HBB.out⟩
      rw [HT.out]
      exact nums_of_owns (zs := []) HO.out (by simp) (by simp)
    · obtain ⟨m, rfl⟩ : ∃ m, n = m + 1 := ⟨n - 1, by omega⟩
      obtain ⟨b, off, rfl, hb, hcell⟩ := HV.out (by omega)
      have hc := hcell m (by omega)
      obtain ⟨x, hx⟩ : ∃ x, x = zs.getD m 0 := ⟨_, rfl⟩
      rw [← hx] at hc
      have HX := Lib.hid hx
      clear hx hcell h0
      by_cases hx0 : x = 0
      · have hbq : ((x : Int) == 0) = true := by rw [beq_iff_eq]; omega
        have H0 := Lib.hid hx0
        clear hx0
        go_wp2_with fail
        go_round
        case rel =>
          refine ⟨m, by omega, by go_num, fun i hi => ?_⟩
          by_cases he : i = m
          · subst he; rw [← HX.out]; exact H0.out
          · exact HZ.out i (by omega)
        case measure => simp [intOf]
      · have hbq : ((x : Int) == 0) = false := by rw [beq_eq_false_iff_ne]; omega
        have ht : M.tlen zs = m + 1 := M.tlen_unique (fun i hi => HZ.out i hi) (.inr (by rw [Nat.add_sub_cancel, ← HX.out]; exact hx0))
        have HT := Lib.hid ht
        have hpp := nums_prefix HN.out (m := m + 1) hn
        have HP := Lib.hid hpp
        have hll : (zs.take (m + 1)).length = m + 1 := by rw [List.length_take]; omega
        have HLL := Lib.hid hll
        have hu : ∀ y ∈ zs.take (m + 1), y < 18446744073709551616 := fun y hy => HN.out.1 y (List.mem_of_mem_take hy)
        have HU := Lib.hid hu
        clear ht hpp hx0 hll hu
        go_wp2_with (at_builtin; refine wpList_append_nums rfl (.tmp 18) (.tmp 21) rfl w.heap.size _ 0 [] rfl (World.ownsRow_made w #[] 0 (Nat.le_refl _) (by decide) rfl) _ (zs.take (m + 1)) rfl (HP.out.below (balloc w _)) (by rw [HLL.out]; omega) (by simp) ?_; intro v' w' hown hb; have HO := Lib.hid hown; have HBB := Lib.hid hb; clear hown hb)
        go_ret
        refine ⟨_, rfl, ?_, (balloc w _).trans HBB.out⟩
        unfold M.trim
        rw [HT.out]
        exact nums_of_owns HO.out HU.out (by rw [HLL.out]; omega)

set_option maxHeartbeats 400000 in
theorem rat_any (v : Value) (zs : List Nat) (i : Nat) (w : World) (hi : i ≤ 4294967296) (hv : Nums w v zs) :
    Calls Try.prog 124 #[v, .int .i64 i] w fun e w' => e = .returned (.int .u64 (zs.getD i 0 : Nat)) ∧ w = w' := by
  obtain ⟨A, cap, rfl, hcap, hlen, hC⟩ := nums_view hv
  clear hv hcap
  by_cases hlt : i < zs.length
  · obtain ⟨b, off, rfl, hb, hcell⟩ := hC (by omega)
    have hc := hcell i hlt
    obtain ⟨x, hx⟩ : ∃ x, x = zs.getD i 0 := ⟨_, rfl⟩
    rw [← hx] at hc ⊢
    clear hx hcell hC
    go_enter Try.func124, Try.ntmps124
    go_wp2
    go_ret
    exact ⟨rfl, rfl⟩
  · rw [M.getD_ge (by omega)]
    clear hC
    go_enter Try.func124, Try.ntmps124
    go_wp2
    go_ret
    exact ⟨rfl, rfl⟩

namespace M
theorem evTake {p x : Nat} {f : List Nat} {k : Nat} (h : k < f.length) : (evN x (f.take k) % p + f.getD k 0 * (x ^ k % p) % p) % p = evN x (f.take (k + 1)) % p := by
  rw [take_snoc h, evN_snoc]
  have hl : (f.take k).length = k := by rw [List.length_take]; omega
  rw [hl, Nat.mul_comm (x ^ k), Nat.add_mod (evN x (f.take k)), Nat.mul_mod (f.getD k 0) (x ^ k % p), Nat.mod_mod, ← Nat.mul_mod, Nat.add_mod (evN x (f.take k) % p), Nat.mod_mod, Nat.mod_mod]
theorem psub_ref {p : Nat} (hp : 0 < p) {f g : List Nat} (hg : within p g = true) : padd p f (pscale p g (p - 1)) = psub p f g := by
  refine ext_red hp (poly_within hp _ _) (poly_within hp _ _) (poly_trim _ _ _) (poly_trim _ _ _) fun i => ?_
  rw [padd_get, psub_get, Nat.add_mod, pscale_get, ← Nat.add_mod]
  have hgi := within_getD hp hg i
  generalize g.getD i 0 = b at *
  generalize f.getD i 0 = a at *
  obtain ⟨q, rfl⟩ : ∃ q, p = q + 1 := ⟨p - 1, by omega⟩
  rw [Nat.add_sub_cancel]
  by_cases hb : b = 0
  · subst hb; simp
  · have e : a + b * q = (a + (q + 1) - b) + (b - 1) * (q + 1) := by
      obtain ⟨c, rfl⟩ : ∃ c, b = c + 1 := ⟨b - 1, by omega⟩
      rw [Nat.add_sub_cancel, Nat.add_mul, Nat.mul_add]; omega
    rw [e, Nat.add_mul_mod_self_right]
end M

set_option maxHeartbeats 1000000 in
theorem reval_any (p x : Nat) (v : Value) (zs : List Nat) (w : World) (h2 : 1 < p) (hp : p ≤ 65537) (hx : x < p) (hw : M.within p zs = true) (hv : Nums w v zs) :
    Calls Try.prog 41 #[.int .u64 p, v, .int .u64 x] w fun e w' => e = .returned (.int .u64 (M.pev p zs x : Nat)) ∧ w = w' := by
  obtain ⟨A, cap, rfl, hcap, hlen, hC⟩ := nums_view hv
  have HV := Lib.hid hC
  have HW := Lib.hid hw
  clear hv hC hcap hw
  go_enter Try.func41, Try.ntmps41
  go_wp2_with fail
  go_loop [7, 8, 13] (fun ts ty t => ∃ k s y : Nat, k ≤ zs.length ∧ t = .int .i64 k ∧ ts = .int .u64 s ∧ ty = .int .u64 y ∧ s = M.evN x (zs.take k) % p ∧ y = x ^ k % p) (fun _ _ t => zs.length - (intOf t).toNat)
  case atStart => exact ⟨0, 0, 1, by omega, rfl, rfl, rfl, by simp [M.evN], by rw [Nat.pow_zero, Nat.mod_eq_of_lt h2]⟩
  case round =>
    obtain ⟨k, s, y, hk, rfl, rfl, rfl, hs, hy⟩ := hrel
    have hsl : s < p := by rw [hs]; exact Nat.mod_lt _ (by omega)
    have hyl : y < p := by rw [hy]; exact Nat.mod_lt _ (by omega)
    have HSS := Lib.hid hs
    have HYY := Lib.hid hy
    clear hs hy
    by_cases hlt : k < zs.length
    · obtain ⟨b, off, rfl, hb, hcell⟩ := HV.out (by omega)
      have hc := hcell k hlt
      have hal := M.within_mem HW.out hlt
      have hst := M.evTake (p := p) (x := x) hlt
      rw [← HSS.out, ← HYY.out] at hst
      obtain ⟨a, ea⟩ : ∃ a, a = zs.getD k 0 := ⟨_, rfl⟩
      rw [← ea] at hc hal hst
      have hm1 := refMul_any p a y w (by omega) hp hal hyl
      have hml : a * y % p < p := Nat.mod_lt _ (by omega)
      obtain ⟨m, em⟩ : ∃ m, m = a * y % p := ⟨_, rfl⟩
      rw [← em] at hm1 hml hst
      have ha1 := refAdd_any p s m w (by omega) hp hsl hml
      have hm2 := refMul_any p y x w (by omega) hp hyl hx
      obtain ⟨s2, es2⟩ : ∃ s2, s2 = (s + m) % p := ⟨_, rfl⟩
      obtain ⟨y2, ey2⟩ : ∃ y2, y2 = y * x % p := ⟨_, rfl⟩
      rw [← es2] at ha1 hst
      rw [← ey2] at hm2
      have HM1 := Lib.hid hm1
      have HA1 := Lib.hid ha1
      have HM2 := Lib.hid hm2
      have HST := Lib.hid hst
      have hye : y2 = x ^ (k + 1) % p := by rw [ey2, HYY.out, Nat.mod_mul_mod, Nat.pow_succ]
      have HYE := Lib.hid hye
      clear hm1 ha1 hm2 hst ea em es2 ey2 hcell hye
      go_wp2_with fail
      refine HM1.out.mono ?_
      rintro e w' ⟨rfl, rfl⟩
      go_wp2_with fail
      refine HA1.out.mono ?_
      rintro e w' ⟨rfl, rfl⟩
      go_wp2_with fail
      refine HM2.out.mono ?_
      rintro e w' ⟨rfl, rfl⟩
      go_wp2_with fail
      go_round
      case rel => exact ⟨k + 1, s2, y2, by omega, by go_num, rfl, rfl, HST.out, HYE.out⟩
      case measure => simp [intOf]; omega
    · obtain rfl : k = zs.length := by omega
      go_wp2_with fail
      go_ret
      exact ⟨ret1 (by rw [HSS.out, List.take_length]; rfl), rfl⟩
end Go.Proofs.Ytgoognipljknjaa
