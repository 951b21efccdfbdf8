/-
  Layer 4's reference: Shares.
-/
import Derived.Test.YtgjkinmfgejjaaaS8
import Derived.Test.YtgjkinmfgejjaaaApi3
import Derived.Deep.AppendLies
import Derived.Deep.RegionLaw
namespace Go.Proofs.Ytgjkinmfgejjaaa
open Go.RowKit
set_option linter.unusedVariables false
set_option maxRecDepth 100000

namespace M
theorem shs_len (p N : Nat) (f : List Nat) : (shs p N f).length = N := by simp [shs, tabM]
theorem tabM_succ (n : Nat) (F : Nat → Nat) : tabM (n + 1) F = tabM n F ++ [F n] := by simp [tabM, List.range_succ]
theorem shs_within {p : Nat} (hp : 0 < p) (N : Nat) (f : List Nat) : within p (shs p N f) = true := by
  refine within_of fun i hi => ?_
  rw [shs_len] at hi
  unfold shs
  rw [tabM_get, if_pos hi]
  exact pev_lt _ _ hp
end M

set_option maxHeartbeats 4000000 in
theorem rshares_any (p N : Nat) (t : Int) (v : Value) (f : List Nat) (w : World) (hi : M.isP p = true) (hN : N ≤ 13) (hNp : N < p) (hwf : M.within p f = true) (hv : Nums w v f) :
    Calls Try.prog 26 #[suV p (N : Int) t, v] w (Gives w (M.shs p N f)) := by
  obtain ⟨h3, hp⟩ := M.pos_of hi
  have HB := Lib.hid (balloc w (Obj.cells #[Value.int IntKind.u64 p, Value.int IntKind.i64 N, Value.int IntKind.i64 t] 24))
  have HV := Lib.hid hv
  have HE := Lib.hid fun (x : Nat) W (hx : x < p) (hW : Nums W v f) => reval_any p x v f W (by omega) hp hx hwf hW
  obtain ⟨A, cap, rfl⟩ := nums_slice' hv
  obtain ⟨i0, hi0, hz0, hz1, hz2⟩ := info_parts infoU64
  unfold suV
  clear hv hi hwf
  go_enter Try.func26, Try.ntmps26
  go_wp2_with fail
  go_loopw [5, 6] (fun tv ti wr => ∃ k m : Nat, m = k + 1 ∧ k ≤ N ∧ ti = .int .i64 m ∧ wr.ownsRow (w.heap.size + 1) 22 1 tv k (vals (M.tabM k fun i => M.pev p f (i + 1))) ∧ w.heap.size < wr.heap.size ∧ wr.cell? ⟨w.heap.size, 0, none⟩ = some (.int .u64 p) ∧ wr.cell? ⟨w.heap.size, 1, none⟩ = some (.int .i64 N) ∧ Below w.heap.size w wr) (fun _ ti _ => N + 1 - (intOf ti).toNat)
  case atStart => exact ⟨0, 1, rfl, by omega, rfl, World.ownsRow_nil _ _ _ _, by simp, by simp, by simp, HB.out⟩
  case round =>
    obtain ⟨k, m, hm, hk, rfl, hown, hlt0, c0, c1, hB⟩ := hrel
    have HO := Lib.hid hown
    have HBr := Lib.hid hB
    have HM := Lib.hid hm
    have H0 := Lib.hid c0
    have H1 := Lib.hid c1
    clear hown hB
    by_cases hlt : m ≤ N
    · have hx := M.pev_lt (p := p) f m (by omega)
      have hsn : vals (M.tabM (k + 1) fun i => M.pev p f (i + 1)) = vals (M.tabM k fun i => M.pev p f (i + 1)) ++ [.int .u64 (M.pev p f m : Nat)] := by
        rw [M.tabM_succ, vals_snoc, hm]
      have hev := HE.out m wr (by omega) (HV.out.below HBr.out)
      obtain ⟨z, ez⟩ : ∃ z, z = M.pev p f m := ⟨_, rfl⟩
      rw [← ez] at hx hsn hev
      have HSN := Lib.hid hsn
      have HEV := Lib.hid hev
      have i3 : IntKind.u64.wrap (m : Int) = m := by rw [IntKind.wrap_u64]; omega
      have i4 : (m : Int) ≤ (N : Nat) := by omega
      clear ez hsn hev hm
      go_wp2_with fail
      refine HEV.out.mono ?_
      rintro e w' ⟨rfl, rfl⟩
      go_wp2_with (at_builtin; refine wpList_append_nums (by rfl) _ _ (by rfl) (w.heap.size + 1) _ k _ (by rfl) (HO.out.alloc _) _ [z] (by rfl) (nums1 wr z (by omega)) (by simp; omega) (by simp; omega) ?_)
      intro v' w4 hown' hb4
      have hg2 : Below (w.heap.size + 1) wr w4 := ((Below.refl (w.heap.size + 1) wr).alloc (by omega) _).trans hb4
      have HB4 := Lib.hid (HBr.out.trans (hg2.mono (by omega)))
      have C0 := Lib.hid ((hg2.cell (p := ⟨w.heap.size, 0, none⟩) (by simp)).trans H0.out)
      have C1 := Lib.hid ((hg2.cell (p := ⟨w.heap.size, 1, none⟩) (by simp)).trans H1.out)
      have L4 := Lib.hid (show w.heap.size < w4.heap.size by have := hg2.size; omega)
      have hown' : w4.ownsRow (w.heap.size + 1) 22 1 v' (k + 1) _ := hown'
      rw [show vals [z] = [Value.int .u64 (z : Nat)] from rfl, ← HSN.out] at hown'
      have HOW := Lib.hid hown'
      clear hown' hb4 hg2
      go_wp2_with fail
      go_roundw
      case rel => exact ⟨k + 1, m + 1, by rw [HM.out], by have := HM.out; omega, by go_num, HOW.out, L4.out, C0.out, C1.out, HB4.out⟩
      case measure => simp [intOf]; omega
    · obtain rfl : k = N := by omega
      have hNN := nums_of_owns HO.out (fun x hx => by
        unfold M.tabM at hx
        obtain ⟨i, _, rfl⟩ := List.mem_map.1 hx
        have := M.pev_lt (p := p) f (i + 1) (by omega)
        omega) (by simp [M.tabM]; omega)
      have HN := Lib.hid hNN
      clear hNN
      go_wp2_with fail
      go_ret
      exact ⟨_, rfl, HN.out, HBr.out⟩
end Go.Proofs.Ytgjkinmfgejjaaa
