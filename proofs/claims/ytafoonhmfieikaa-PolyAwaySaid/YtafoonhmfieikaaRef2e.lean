/-
  The reference of layer 2: Weights, Away.
-/
import Derived.Test.YtafoonhmfieikaaRef2d
import Derived.Test.YtafoonhmfieikaaP9
import Derived.Test.YtafoonhmfieikaaP10
import Derived.Test.YtafoonhmfieikaaApi3
namespace Go.Proofs.Ytafoonhmfieikaa
open Go.RowKit
set_option linter.unusedVariables false

namespace M
theorem unit_weight {p t : Nat} (hp : 1 < p) (xs : List Nat) (i : Nat) : unitAt p t xs i xs.length = aboveAt p xs t i * pw p (belowAt p xs i) (p - 2) % p := unitAt_dist hp xs i xs.length
/-- the first k weights -/
def wTo (p : Nat) (xs : List Nat) (t k : Nat) : List Nat := (List.range k).map fun i => unitAt p t xs i xs.length
theorem wTo_succ (p : Nat) (xs : List Nat) (t k : Nat) : wTo p xs t (k + 1) = wTo p xs t k ++ [unitAt p t xs k xs.length] := by simp [wTo, List.range_succ]
theorem wTo_len (p : Nat) (xs : List Nat) (t k : Nat) : (wTo p xs t k).length = k := by simp [wTo]
theorem wTo_all {p : Nat} (hp : 1 < p) (xs : List Nat) (t : Nat) : wTo p xs t xs.length = weights p xs t := by
  unfold wTo weights tabM
  apply List.map_congr_left
  intro i _
  exact unit_weight hp xs i
end M

set_option maxHeartbeats 2000000 in
theorem rweights_any (p t : Nat) (v : Value) (xs : List Nat) (w : World) (h3 : 3 ≤ p) (hp : p ≤ 65537) (ht : t < p) (hw : M.within p xs = true) (hxl : xs.length ≤ 201) (hv : Nums w v xs) :
    Calls Try.prog 46 #[.int .u64 p, v, .int .u64 t] w (Gives w (M.weights p xs t)) := by
  have HV := Lib.hid hv
  have HW := Lib.hid hw
  obtain ⟨A, cap, rfl⟩ := nums_slice' hv
  obtain ⟨i0, hi0, hz0, hz1, hz2⟩ := info_parts infoU64
  clear hv hw
  go_enter Try.func46, Try.ntmps46
  go_wp2_with fail
  go_loopw [7, 11] (fun t7 ti wr => ∃ k : Nat, k ≤ xs.length ∧ ti = .int .i64 k ∧ wr.ownsRow w.heap.size 22 1 t7 k (vals (M.wTo p xs t k)) ∧ Below w.heap.size w wr) (fun _ ti _ => xs.length - (intOf ti).toNat)
  case atStart => exact ⟨0, by omega, rfl, World.ownsRow_nil _ _ _ _, Below.refl _ _⟩
  case round =>
    obtain ⟨k, hk, rfl, hown, hB⟩ := hrel
    have HO := Lib.hid hown
    have HB := Lib.hid hB
    clear hown hB
    by_cases hlt : k < xs.length
    · have hu := Lib.hid (unit_any p k _ xs wr h3 hp HW.out hxl hlt (HV.out.at (Nat.le_refl _) HB.out HV.out))
      go_wp2_with fail
      refine hu.out.mono ?_
      rintro e w1 ⟨v1, u, rfl, hn1, hun, hb1⟩
      have hev := reval_any p t v1 u w1 (by omega) hp ht hun.1 hn1
      rw [hun.2.2 t ht] at hev
      obtain ⟨y, ey⟩ : ∃ y, y = M.unitAt p t xs k xs.length := ⟨_, rfl⟩
      rw [← ey] at hev
      have HEV := Lib.hid hev
      have HROW := Lib.hid (own_below HO.out hb1)
      have HB1 := Lib.hid (HB.out.trans (hb1.mono HB.out.size))
      have hsucc := M.wTo_succ p xs t k
      rw [← ey] at hsucc
      have HSU := Lib.hid hsucc
      clear hev hb1 hn1 hun hsucc ey
      go_wp2_with fail
      refine HEV.out.mono ?_
      rintro e w' ⟨rfl, rfl⟩
      go_wp2_with (at_builtin; refine wpList_append_own _ rfl _ _ 23 rfl w.heap.size 22 i0 (.int .u64 0) 1 8 Try.underlying23 hi0 hz0 hz1 hz2 rfl (by decide) _ _ _ rfl (HROW.out.alloc _) ⟨w1.heap.size, 0, none⟩ 1 1 [.int .u64 (y : Nat)] rfl rfl ?c1 ?c2 ?c3 ?c4 ?c5 ?_)
      case c1 =>
        intro j u hu
        rw [Addr.add_lit]
        match j, hu with
        | 0, hu => simpa using hu
      case c2 => intro u hu; simp at hu; subst hu; rfl
      case c3 => unfold maxLen; omega
      case c4 => omega
      case c5 => have := HB1.out.size; simp; omega
      intro v' w4 hown' hgrow _
      have hlt' := fun r hr => (HROW.out.lt r hr).1
      have HB4 := Lib.hid ((HB1.out.alloc HB1.out.size _).grown hgrow (by have := HB1.out.size; simp; omega) (fun r hr => hlt' r hr))
      rw [← vals_snoc] at hown'
      have HOW := Lib.hid hown'
      clear hown' hgrow hlt'
      go_wp2_with fail
      go_roundw
      case rel => exact ⟨k + 1, by omega, by go_num, by rw [HSU.out]; exact HOW.out, HB4.out⟩
      case measure => simp [intOf]; omega
    · obtain rfl : k = xs.length := by omega
      have hN := nums_of_owns HO.out (fun x hx => by
        unfold M.wTo at hx
        obtain ⟨i, _, rfl⟩ := List.mem_map.1 hx
        have := M.unitAt_lt (p := p) (t := t) (by omega) xs i xs.length
        omega) (by rw [M.wTo_len]; omega)
      rw [M.wTo_all (by omega)] at hN
      have HN := Lib.hid hN
      clear hN
      go_wp2_with fail
      go_ret
      exact ⟨_, rfl, HN.out, HB.out⟩

set_option maxHeartbeats 2000000 in
theorem raway_any (p : Nat) (v : Value) (xs : List Nat) (w : World) (hi : M.isP p = true) (hw : M.within p xs = true) (hxl : xs.length ≤ 200) (hnz : M.NoZ xs) (hv : Nums w v xs) :
    Calls Try.prog 48 #[.int .u64 p, v] w fun e w' => ∃ v' f, e = .returned v' ∧ Nums w' v' f ∧ M.AwayOf p xs f ∧ Below w.heap.size w w' := by
  obtain ⟨h3, hp⟩ := M.pos_of hi
  obtain ⟨A, cap, rfl, _, _, hC⟩ := nums_view hv
  have HV := Lib.hid hC
  have HW := Lib.hid hw
  have HI := Lib.hid hi
  have HNZ := Lib.hid hnz
  clear hv hw hi hC hnz
  go_enter Try.func48, Try.ntmps48
  go_wp2_with fail
  have hz0 := Lib.hid (nums1 w 1 (by omega))
  go_loopw [5, 11] (fun t5 ti wr => ∃ (k : Nat) (f : List Nat), k ≤ xs.length ∧ ti = .int .i64 k ∧ Nums wr t5 f ∧ M.AwayK p xs k f ∧ Below w.heap.size w wr) (fun _ ti _ => xs.length - (intOf ti).toNat)
  case atStart => exact ⟨0, [1], by omega, rfl, hz0.out, M.AwayK.start (by omega) _, balloc w _⟩
  case round =>
    obtain ⟨k, f, hk, rfl, hN, hA, hB⟩ := hrel
    have HN := Lib.hid hN
    have HA := Lib.hid hA
    have HB := Lib.hid hB
    clear hN hA hB hz0
    by_cases hlt : k < xs.length
    · obtain ⟨b, off, rfl, hb, hcell⟩ := HV.out (by omega)
      have hc1 := (HB.out.cell (p := ⟨b, off + k, none⟩) hb).trans (hcell k hlt)
      have hx := M.within_mem HW.out hlt
      have hx0 : xs.getD k 0 ≠ 0 := HNZ.out _ (by rw [M.getD_lt hlt]; exact List.getElem_mem hlt)
      have hst := M.AwayK.step HI.out HW.out hlt hx0 HA.out
      have hfl := HA.out.2.2.1
      obtain ⟨x, ex⟩ : ∃ x, x = xs.getD k 0 := ⟨_, rfl⟩
      rw [← ex] at hc1 hx hst
      have s3 := fun W => refInv_any p x W h3 hp hx
      obtain ⟨q, eq⟩ : ∃ q, q = M.pw p x (p - 2) := ⟨_, rfl⟩
      have hql : q < p := by rw [eq]; exact M.pw_lt _ _ (by omega)
      rw [← eq] at s3 hst
      have s1 : ∀ W, Calls Try.prog 52 #[.int .u64 p, .int .u64 0, .int .u64 q] W fun e w' => e = .returned (.int .u64 ((0 + p - q) % p : Nat)) ∧ W = w' := fun W => refSub_any p 0 q W (by omega) hp (by omega) hql
      obtain ⟨a, ea⟩ : ∃ a, a = (0 + p - q) % p := ⟨_, rfl⟩
      have hal : a < p := by rw [ea]; exact Nat.mod_lt _ (by omega)
      rw [← ea] at s1 hst
      have hwl : M.within p [1, a] = true := by unfold M.within; simp; omega
      have m1 := fun W V V2 (h1 : Nums W V f) (h2 : Nums W V2 [1, a]) => rmul_any p V V2 f [1, a] W (by omega) hp HA.out.1 hwl (by omega) (by simp) h1 h2
      have S1 := Lib.hid s1
      have S3 := Lib.hid s3
      have M1 := Lib.hid m1
      have HST := Lib.hid hst
      clear s1 s3 m1 hst hwl ex ea eq hx0 hcell
      go_wp2_with fail
      refine (S3.out _).mono ?_
      rintro e w' ⟨rfl, rfl⟩
      go_wp2_with fail
      refine (S1.out _).mono ?_
      rintro e w' ⟨rfl, rfl⟩
      go_wp2_with fail
      refine (M1.out _ _ _ (HN.out.below (balloc wr _)) (nums2 wr 1 a (by omega) (by omega))).mono ?_
      rintro e w2 ⟨v2, rfl, hn2, hb2⟩
      have HN2 := Lib.hid hn2
      have HB2 := Lib.hid (bnext (bnext HB.out (balloc wr _)) hb2)
      clear hn2 hb2
      go_wp2_with fail
      go_roundw
      case rel => exact ⟨k + 1, _, by omega, by go_num, HN2.out, HST.out, HB2.out⟩
      case measure => simp [intOf]; omega
    · obtain rfl : k = xs.length := by omega
      go_wp2_with fail
      go_ret
      exact ⟨_, f, rfl, HN.out, HA.out.done, HB.out⟩
end Go.Proofs.Ytafoonhmfieikaa
