/-
  Parties as points; the reference's Numbers.
-/
import Derived.Test.YtfkepkdfpjaniaaP7s
import Derived.Test.YtfkepkdfpjaniaaRwy
namespace Go.Proofs.Ytfkepkdfpjaniaa
open Go.RowKit
set_option linter.unusedVariables false
set_option maxRecDepth 100000

namespace M
/-- the points of parties -/
def pts (l : List Int) : List Nat := l.map Int.toNat
theorem pts_len (l : List Int) : (pts l).length = l.length := by simp [pts]
theorem pts_get (l : List Int) (i : Nat) : (pts l).getD i 0 = (l.getD i 0).toNat := by
  unfold pts
  by_cases h : i < l.length
  · simp [List.getD_eq_getElem?_getD, h]
  · rw [List.getD_eq_getElem?_getD, List.getElem?_eq_none (by simp; omega), List.getD_eq_getElem?_getD, List.getElem?_eq_none (by omega)]; rfl
theorem rises_lt {n : Int} {l : List Int} (h : RisesTo n l l.length) : ∀ j i, i < j → j < l.length → l.getD i 0 < l.getD j 0
  | 0, i, hi, _ => absurd hi (by omega)
  | j + 1, i, hi, hj => by
    have h1 := (h (j + 1) hj).1
    rw [prev_succ] at h1
    by_cases e : i = j
    · subst e; exact h1
    · have := rises_lt h j i (by omega) (by omega)
      omega
theorem rises_range {n : Int} {l : List Int} (h : RisesTo n l l.length) {i : Nat} (hi : i < l.length) : 1 ≤ l.getD i 0 ∧ l.getD i 0 ≤ n := ⟨rises_pos h i hi, (h i hi).2⟩
theorem nodup_of_getD : ∀ {l : List Nat}, (∀ i j, i < j → j < l.length → l.getD i 0 ≠ l.getD j 0) → l.Nodup
  | [], _ => by simp
  | a :: t, h => by
    rw [List.nodup_cons]
    refine ⟨fun hm => ?_, nodup_of_getD (l := t) fun i j hij hj => ?_⟩
    · obtain ⟨i, hi, e⟩ := List.getElem_of_mem hm
      have := h 0 (i + 1) (by omega) (by simp; omega)
      simp only [List.getD_cons_zero, List.getD_cons_succ] at this
      rw [getD_lt hi] at this
      exact this e.symm
    · have := h (i + 1) (j + 1) (by omega) (by simp; omega)
      simpa only [List.getD_cons_succ] using this
theorem pts_nodup {n : Int} {l : List Int} (h : RisesTo n l l.length) : (pts l).Nodup := by
  refine nodup_of_getD fun i j hij hj => ?_
  rw [pts_len] at hj
  rw [pts_get, pts_get]
  have h1 := rises_lt h j i hij hj
  have h2 := rises_range h (i := i) (by omega)
  omega
theorem pts_noz {n : Int} {l : List Int} (h : RisesTo n l l.length) : NoZ (pts l) := by
  intro x hx
  obtain ⟨i, hi, rfl⟩ := List.getElem_of_mem hx
  rw [← getD_lt hi, pts_get]
  have := rises_range h (i := i) (by rw [pts_len] at hi; exact hi)
  omega
theorem pts_within {p : Nat} {n : Int} {l : List Int} (h : RisesTo n l l.length) (hn : n < (p : Int)) : within p (pts l) = true := by
  refine within_of fun i hi => ?_
  rw [pts_len] at hi
  rw [pts_get]
  have := rises_range h hi
  omega

end M
theorem M.pts_take {l : List Int} {k : Nat} (h : k < l.length) : M.pts (l.take (k + 1)) = M.pts (l.take k) ++ [(l.getD k 0).toNat] := by
  unfold M.pts
  rw [List.take_succ_eq_append_getElem h, List.map_append, List.getD_eq_getElem?_getD, List.getElem?_eq_getElem h]
  rfl

set_option maxHeartbeats 1000000 in
theorem rnumbers_any (v : Value) (l : List Int) (w : World) (hl : l.length ≤ 1000) (hpos : ∀ i, i < l.length → 0 ≤ l.getD i 0) (hv : IntsZ w v l) :
    Calls Try.prog 45 #[v] w (Gives w (M.pts l)) := by
  obtain ⟨hz, _, A, cap, rfl, hcap, hcell⟩ := hv
  have HV := Lib.hid hcell
  have HZ := Lib.hid hz
  have HP := Lib.hid hpos
  clear hcell hz hpos
  go_enter Try.func45, Try.ntmps45
  go_wp2_with fail
  go_loopw [3, 8] (fun tv ti wr => ∃ k : Nat, k ≤ l.length ∧ ti = .int .i64 k ∧ wr.ownsRow w.heap.size 22 1 tv k (vals (M.pts (l.take k))) ∧ Below w.heap.size w wr) (fun _ ti _ => l.length - (intOf ti).toNat)
  case atStart => exact ⟨0, by omega, rfl, World.ownsRow_nil _ _ _ _, Below.refl _ _⟩
  case round =>
    obtain ⟨k, hk, rfl, hown, hB⟩ := hrel
    have HO := Lib.hid hown
    have HBr := Lib.hid hB
    clear hown hB
    by_cases hlt : k < l.length
    · obtain ⟨b, off, rfl, hb, hcell⟩ := HV.out (by omega)
      have hc := (HBr.out.cell (p := ⟨b, off + k, none⟩) hb).trans (hcell k hlt)
      have hzk := HZ.out (l.getD k 0) (by rw [List.getD_eq_getElem?_getD, List.getElem?_eq_getElem hlt]; exact List.getElem_mem hlt)
      have hsn := congrArg vals (M.pts_take hlt)
      rw [vals_snoc] at hsn
      obtain ⟨x, hx⟩ := Int.eq_ofNat_of_zero_le (HP.out k hlt)
      rw [hx] at hc hzk hsn
      rw [show ((x : Int)).toNat = x from rfl] at hsn
      have HSN := Lib.hid hsn
      have hkn : (k : Int) < (l.length : Nat) := by omega
      clear hx hcell hsn
      go_wp2_with (at_builtin; refine wpList_append_nums (by rfl) _ _ (by rfl) w.heap.size _ k _ (by rfl) (HO.out.alloc _) _ [x] (by rfl) (nums1 wr x (by omega)) (by simp; omega) (by have := HBr.out.size; simp; omega) ?_)
      intro v' w4 hown' hb4
      have HB4 := Lib.hid (HBr.out.trans (((Below.refl w.heap.size wr).alloc HBr.out.size _).trans hb4))
      have hown' : w4.ownsRow w.heap.size 22 1 v' (k + 1) _ := hown'
      rw [show vals [x] = [Value.int .u64 (x : Nat)] from rfl, ← HSN.out] at hown'
      have HOW := Lib.hid hown'
      clear hown' hb4
      go_wp2_with fail
      go_roundw
      case rel => exact ⟨k + 1, by omega, by go_num, HOW.out, HB4.out⟩
      case measure => simp [intOf]; omega
    · obtain rfl : k = l.length := by omega
      have hown := HO.out
      rw [List.take_length] at hown
      have HN := Lib.hid (nums_of_owns hown (fun x hx => by
        obtain ⟨z, hz, rfl⟩ := List.mem_map.1 hx
        have := HZ.out z hz
        omega) (by rw [M.pts_len]; omega))
      clear hown
      go_wp2_with fail
      go_ret
      exact ⟨_, rfl, HN.out, HBr.out⟩

end Go.Proofs.Ytfkepkdfpjaniaa
