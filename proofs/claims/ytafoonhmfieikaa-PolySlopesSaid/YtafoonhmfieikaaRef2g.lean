/-
  The reference of layer 2: Slope.
-/
import Derived.Test.YtafoonhmfieikaaRef2a
import Derived.Test.YtafoonhmfieikaaApi3
import Derived.Deep.RegionLaw
import Derived.Deep.AppendLies
namespace Go.Proofs.Ytafoonhmfieikaa
open Go.RowKit
set_option linter.unusedVariables false

namespace M
/-- the first k coefficients of the derivative -/
def sTo (p : Nat) (f : List Nat) (k : Nat) : List Nat := tabM k fun i => (i + 1) % p * f.getD (i + 1) 0 % p
theorem sTo_succ (p : Nat) (f : List Nat) (k : Nat) : sTo p f (k + 1) = sTo p f k ++ [(k + 1) % p * f.getD (k + 1) 0 % p] := by simp [sTo, tabM, List.range_succ]
theorem sTo_len (p : Nat) (f : List Nat) (k : Nat) : (sTo p f k).length = k := by simp [sTo, tabM]
theorem sTo_lt {p : Nat} (hp : 0 < p) (f : List Nat) (k : Nat) : ∀ x ∈ sTo p f k, x < p := by
  intro x hx
  unfold sTo tabM at hx
  obtain ⟨i, _, rfl⟩ := List.mem_map.1 hx
  exact Nat.mod_lt _ hp
theorem sTo_all (p : Nat) (f : List Nat) : trim (sTo p f (f.length - 1)) = pslope p f := rfl
end M

set_option maxRecDepth 100000 in
set_option maxHeartbeats 4000000 in
theorem rslope_any (p : Nat) (v : Value) (f : List Nat) (w : World) (h2 : 0 < p) (hp : p ≤ 65537) (hwf : M.within p f = true) (hfl : f.length ≤ 1000) (hv : Nums w v f) :
    Calls Try.prog 39 #[.int .u64 p, v] w (Gives w (M.pslope p f)) := by
  obtain ⟨A, cap, rfl, _, _, hC⟩ := nums_view hv
  have HV := Lib.hid hC
  have HW := Lib.hid hwf
  obtain ⟨i0, hi0, hz0, hz1, hz2⟩ := info_parts infoU64
  clear hwf hv hC
  go_enter Try.func39, Try.ntmps39
  go_wp2_with fail
  go_loopw [5, 6] (fun t5 t6 wr => ∃ k m : Nat, m = k + 1 ∧ k ≤ f.length - 1 ∧ t6 = .int .i64 m ∧ wr.ownsRow w.heap.size 22 1 t5 k (vals (M.sTo p f k)) ∧ Below w.heap.size w wr) (fun _ t6 _ => f.length - (intOf t6).toNat)
  case atStart => exact ⟨0, 1, rfl, by omega, rfl, World.ownsRow_nil _ _ _ _, Below.refl _ _⟩
  case round =>
    obtain ⟨k, m, hm, hk, rfl, hown, hB⟩ := hrel
    have HO := Lib.hid hown
    have HB := Lib.hid hB
    have HM := Lib.hid hm
    clear hown hB
    by_cases hlt : m < f.length
    · obtain ⟨b, off, rfl, hb, hcell⟩ := HV.out (by omega)
      have hc1 := (HB.out.cell (p := ⟨b, off + m, none⟩) hb).trans (hcell m hlt)
      have hx := M.within_mem HW.out hlt
      have hsn := M.sTo_succ p f k
      rw [← hm] at hsn
      obtain ⟨x, ex⟩ : ∃ x, x = f.getD m 0 := ⟨_, rfl⟩
      rw [← ex] at hc1 hx hsn
      have hmu := fun W => refMul_any p (m % p) x W h2 hp (Nat.mod_lt _ h2) hx
      obtain ⟨z, ez⟩ : ∃ z, z = m % p * x % p := ⟨_, rfl⟩
      have hzl : z < p := by rw [ez]; exact Nat.mod_lt _ h2
      rw [← ez] at hmu hsn
      have hsv := congrArg vals hsn
      rw [vals_snoc, hm] at hsv
      rw [show ((m % p : Nat) : Int) = (m : Int).tmod p by rw [Int.natCast_emod, Int.tmod_eq_emod_of_nonneg (by omega)]] at hmu
      have HMU := Lib.hid hmu
      have HSN := Lib.hid hsv
      have i1 : (m : Int) < (f.length : Nat) := by omega
      have i2 : decide ((m : Int) < (f.length : Nat)) = true := by simp; omega
      have i3 : IntKind.u64.wrap (m : Int) = m := by rw [IntKind.wrap_u64]; omega
      have i4 : ((p : Int) == 0) = false := by rw [beq_eq_false_iff_ne]; omega
      have i5 : ¬ p = 0 := by omega
      clear ex ez hcell hsn hmu hm hsv
      go_wp2_with fail
      go_region_law? (first
        | (go_simp; go_at_call 53; (with_reducible refine (HMU.out _).mono ?_); rintro e w' ⟨rfl, rfl⟩)
        | (refine step_append_lies _ (by rfl) _ _ _ (by rfl) w.heap.size 22 i0 _ 1 8 Try.underlying23 hi0 hz0 hz1 hz2 rfl (by omega) u5 k _ (by rfl) ((HO.out.alloc _).drew)
            ⟨wr.heap.size, 0, none⟩ 1 1 [.int .u64 z] (by rfl) (by rfl) (World.news_of_block (cs := #[.int .u64 z]) (t := 22) (fr := (0, 0)) (heap_alloc_new wr _)) (by simp [Value.oneCell'])
            (by omega) (by unfold maxLen; omega) (by omega) (by have := HB.out.size; simp; omega) (wr.heap.size + 1) (by simp) ?_; intro gg cp w4 hown' hgrow hat hgl))
      have hlt' := fun r hr => (HO.out.lt r hr).1
      have HB4 := Lib.hid ((HB.out.alloc HB.out.size _).drew.grown hgrow (by have := HB.out.size; simp; omega) (fun r hr => hlt' r hr))
      rw [← HSN.out] at hown'
      have HOW := Lib.hid hown'
      clear hown' hgrow hlt' hat hgl
      go_wp2_with fail
      go_roundw
      case rel => exact ⟨k + 1, m + 1, by rw [HM.out], by have := HM.out; omega, by go_num, HOW.out, HB4.out⟩
      case measure => simp [intOf]; omega
    · obtain rfl : k = f.length - 1 := by omega
      have i2 : decide ((m : Int) < (f.length : Nat)) = false := by simp; omega
      have hN := nums_of_owns HO.out (fun x hx => by have := M.sTo_lt h2 f _ x hx; omega) (by rw [M.sTo_len]; omega)
      have HT := Lib.hid (rtrim_any _ _ wr hN)
      obtain ⟨A7, cap7, rfl⟩ := nums_slice' hN
      clear hN
      go_wp2_with fail
      refine HT.out.mono ?_
      rintro e w2 ⟨v2, rfl, hn2, hb2⟩
      rw [M.sTo_all] at hn2
      have HN2 := Lib.hid hn2
      have B2 := Lib.hid (bnext HB.out hb2)
      clear hb2 hn2
      go_wp2_with fail
      go_ret
      exact ⟨_, rfl, HN2.out, B2.out⟩
end Go.Proofs.Ytafoonhmfieikaa
