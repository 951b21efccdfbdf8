/-
  slices.Grow of nil, slices.Concat of two slices of numbers.
-/
import Derived.Test.YtfkepkdfpjaniaaXA
import Derived.Lib.AppendZerosOnto
namespace Go.Proofs.Ytfkepkdfpjaniaa
open Go.RowKit
set_option linter.unusedVariables false
set_option maxRecDepth 100000

set_option maxHeartbeats 1000000 in
theorem grow_nil (n : Nat) (w : World) (h0 : 0 < n) (hn : n ≤ 2000) :
    Calls Try.prog 83 #[.slice none 0 0, .int .i64 n] w fun e w' => ∃ v, e = .returned v ∧ w'.ownsRow w.heap.size 22 1 v 0 [] ∧ Below w.heap.size w w' := by
  obtain ⟨i0, hi0, hz0, hz1, hz2⟩ := info_parts infoU64
  have hrz : ∀ ty, (Builtin.append_ #[31, 3] ty #[.slice none 0 0, .int .i64 (n : Nat)]).run Try.prog w =
      .ok (.slice (some ⟨w.heap.size, 0, none⟩) n (grownCap w n 0 22)) (w.drew.alloc (.cells (#[] ++ Builtin.zeroCells (Value.int .u64 0).cells n ++ Builtin.zeroCells (Value.int .u64 0).cells (grownCap w n 0 22 - n)) 22)) := fun ty => by
    have h := Lib.run_append_grow_zeros (P := Try.prog) w 31 3 ty 22 i0 (.int .u64 0) .i64 .i64 Try.underlying31 Try.underlying3 hi0 hz0 none 0 0 [] (run_firstCells_none w.drew i0.size 0 0 0) n h0 (by omega) (by omega) (by omega) (by rw [hz2]; omega)
      (by rw [hz2]; unfold Builtin.nextslicecap; rw [if_pos (by omega)]; omega)
    simpa using h
  have hge := grownCap_ge w n 0 22
  have hle := grownCap_le_maxLen w n 0 22 (by unfold maxLen; omega)
  obtain ⟨c, ec⟩ : ∃ c, c = grownCap w n 0 22 := ⟨_, rfl⟩
  rw [← ec] at hrz hge hle
  obtain ⟨cs, ecs⟩ : ∃ cs, cs = (#[] ++ Builtin.zeroCells (Value.int .u64 0).cells n ++ Builtin.zeroCells (Value.int .u64 0).cells (c - n)) := ⟨_, rfl⟩
  have hsz : cs.size = c * 1 := by rw [ecs]; simp [size_zeroCells, Value.cells]; omega
  rw [← ecs] at hrz
  have HSZ := Lib.hid hsz
  have HLE := Lib.hid hle
  have hle2 : c ≤ 9223372036854775807 := by unfold maxLen at hle; omega
  clear ec ecs hsz hle
  go_enter Try.func83, Try.ntmps83
  go_wp2_with (at_builtin; refine Lib.wpList_append_run _ rfl _ _ _ _ rfl _ _ rfl rfl _ _ (hrz _) ?_)
  all_goals
    go_ret
    refine ⟨_, rfl, ?_, (Below.refl _ _).drew.alloc (Nat.le_refl _) _⟩
    exact World.ownsRow_made w.drew cs c (Nat.le_refl _) HLE.out HSZ.out

/-- the first k of two numbers' sum; the first k of two lists, one behind the other -/
def two (a b : Nat) : Nat → Nat
  | 0 => 0
  | 1 => a
  | _ => a + b
def twoL (zs ys : List Nat) : Nat → List Nat
  | 0 => []
  | 1 => zs
  | _ => zs ++ ys
theorem twoL_len (zs ys : List Nat) (k : Nat) : (twoL zs ys k).length = two zs.length ys.length k := by
  match k with
  | 0 => rfl
  | 1 => rfl
  | k + 2 => simp [twoL, two]
theorem two_le (a b k : Nat) : two a b k ≤ a + b := by
  match k with
  | 0 => simp [two]
  | 1 => simp [two]
  | k + 2 => simp [two]

set_option maxHeartbeats 2000000 in
theorem concat_any (b : Nat) (v1 v2 : Value) (zs ys : List Nat) (w : World) (hz0 : 0 < zs.length) (hl : zs.length + ys.length ≤ 2000) (h1 : Nums w v1 zs) (h2 : Nums w v2 ys)
    (hc : w.heap[b]? = some (.cells #[v1, v2] 31 (0, 0))) :
    Calls Try.prog 53 #[.slice (some ⟨b, 0, none⟩) 2 2] w (Gives w (zs ++ ys)) := by
  have c1 : w.cell? ⟨b, 0, none⟩ = some v1 := by rw [cell_of_row w b 0 _ _ (0, 0) hc]; rfl
  have c2 : w.cell? ⟨b, 1, none⟩ = some v2 := by rw [cell_of_row w b 1 _ _ (0, 0) hc]; rfl
  have HB := Lib.hid (lt_of_block hc)
  have H1 := Lib.hid h1
  have H2 := Lib.hid h2
  obtain ⟨a1, p1, rfl⟩ := nums_slice' h1
  obtain ⟨a2, p2, rfl⟩ := nums_slice' h2
  clear h1 h2 hc
  have C1 := Lib.hid c1
  have C2 := Lib.hid c2
  go_enter Try.func53, Try.ntmps53
  go_wp2_with fail
  go_loop [11, 3] (fun ti ts => ∃ k : Nat, k ≤ 2 ∧ ti = .int .i64 k ∧ ts = .int .i64 (two zs.length ys.length k)) (fun ti _ => 2 - (intOf ti).toNat)
  case atStart => exact ⟨0, by omega, rfl, rfl⟩
  case round =>
    obtain ⟨k, hk, rfl, rfl⟩ := hrel
    have ht := two_le zs.length ys.length k
    match k, hk with
    | 0, _ =>
      clear ht
      simp only [two]
      go_wp2_with fail
      go_round
      case rel => exact ⟨1, by omega, by go_num, by simp⟩
      case measure => simp [intOf]
    | 1, _ =>
      clear ht
      simp only [two]
      go_wp2_with fail
      go_round
      case rel => exact ⟨2, by omega, by go_num, by simp⟩
      case measure => simp [intOf]
    | 2, _ =>
      clear ht
      simp only [two]
      have hgr := Lib.hid (grow_nil (zs.length + ys.length) w (by omega) (by omega))
      have ecast : ((zs.length + ys.length : Nat) : Int) = (zs.length : Int) + ys.length := by omega
      rw [ecast] at hgr ⊢
      clear ecast
      go_wp2_with fail
      refine hgr.out.mono ?_
      rintro e w1 ⟨v, rfl, hown, hb⟩
      have HO := Lib.hid hown
      have HW := Lib.hid hb
      clear hown hb hgr
      go_wp2_with fail
      go_loopw [27, 6] (fun ti tv wr => ∃ k : Nat, k ≤ 2 ∧ ti = .int .i64 k ∧ wr.ownsRow w.heap.size 22 1 tv (twoL zs ys k).length (vals (twoL zs ys k)) ∧ Below w.heap.size w wr) (fun ti _ _ => 2 - (intOf ti).toNat)
      case atStart => exact ⟨0, by omega, rfl, HO.out, HW.out⟩
      case round =>
        obtain ⟨k, hk, rfl, hown, hB⟩ := hrel
        have HO2 := Lib.hid hown
        have HW2 := Lib.hid hB
        have d1 := (hB.cell (p := ⟨b, 0, none⟩) HB.out).trans C1.out
        have d2 := (hB.cell (p := ⟨b, 1, none⟩) HB.out).trans C2.out
        clear hown hB c1 c2 HO HW
        match k, hk with
        | 0, _ =>
          go_wp2_with (at_builtin; refine wpList_append_nums (by rfl) _ _ (by rfl) w.heap.size _ _ _ (by rfl) HO2.out _ zs (by rfl) (H1.out.below HW2.out) (by simp [twoL]; omega) (by have := HW2.out.size; omega) ?_)
          intro v' w' hown' hb'
          have HO3 := Lib.hid hown'
          have HW3 := Lib.hid (HW2.out.trans hb')
          clear hown' hb'
          go_wp2_with fail
          go_roundw
          case rel => exact ⟨1, by omega, by go_num, by simpa [twoL, vals] using HO3.out, HW3.out⟩
          case measure => simp [intOf]
        | 1, _ =>
          go_wp2_with (at_builtin; refine wpList_append_nums (by rfl) _ _ (by rfl) w.heap.size _ _ _ (by rfl) HO2.out _ ys (by rfl) (H2.out.below HW2.out) (by simp [twoL]; omega) (by have := HW2.out.size; omega) ?_)
          intro v' w' hown' hb'
          have HO3 := Lib.hid hown'
          have HW3 := Lib.hid (HW2.out.trans hb')
          clear hown' hb'
          go_wp2_with fail
          go_roundw
          case rel => exact ⟨2, by omega, by go_num, by simpa [twoL, vals] using HO3.out, HW3.out⟩
          case measure => simp [intOf]
        | 2, _ =>
          go_wp2_with fail
          go_ret
          refine ⟨_, rfl, nums_of_owns HO2.out ?_ ?_, HW2.out⟩
          · intro x hx
            have hx' : x ∈ zs ++ ys := hx
            rcases List.mem_append.1 hx' with hx | hx
            · exact H1.out.1 x hx
            · exact H2.out.1 x hx
          · show (zs ++ ys).length ≤ _
            simp; omega
end Go.Proofs.Ytfkepkdfpjaniaa
