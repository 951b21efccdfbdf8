/-
  Package decode: Gaps with wrong arguments; the reference's There.
-/
import Derived.Test.YtfgfapbhgehfiaaG1
import Derived.Outline
namespace Go.Proofs.Ytfgfapbhgehfiaa
open Go.RowKit
set_option linter.unusedVariables false
set_option maxRecDepth 100000

set_option maxHeartbeats 1000000 in
theorem gaps_chk (p : Nat) (d : Int) (v vb : Value) (xs ys : List Nat) (bs : List Bool) (w : World) (hp : p < 18446744073709551616) (hv : Pts w v xs ys) (hb : Bools w vb bs) (h : M.dchk p d xs ys ≠ 0) :
    Calls Try.prog 22 #[.int .u64 p, .int .i64 d, v, vb] w fun e w' => e = .returned (.tuple #[.slice none 0 0, .slice none 0 0, .int .i64 (M.dchk p d xs ys)]) ∧ Below w.heap.size w w' := by
  have hud : ∀ b : Bool, undef ≠ Value.bool b := fun b h => by cases h
  have HC := Lib.hid (dcheck_any p d v xs ys w hp hv)
  obtain ⟨A, cap, rfl, _⟩ := hv.2.2.2.2
  obtain ⟨Ab, cb, rfl, _⟩ := hb.2
  obtain ⟨c, ec⟩ : ∃ c, c = M.dchk p d xs ys := ⟨_, rfl⟩
  rw [← ec] at HC h ⊢
  clear hv hb ec
  go_enter Try.func22, Try.ntmps22
  go_wp2_with fail
  refine HC.out.mono ?_
  rintro e w1 ⟨rfl, hb⟩
  have B1 := Lib.hid hb
  clear hb
  go_wp2
  go_ret3
  exact ⟨rfl, B1.out⟩
set_option maxHeartbeats 1000000 in
theorem gaps_len (p : Nat) (d : Int) (v vb : Value) (xs ys : List Nat) (bs : List Bool) (w : World) (hp : p < 18446744073709551616) (hv : Pts w v xs ys) (hb : Bools w vb bs) (h : M.dchk p d xs ys = 0) (hne : bs.length ≠ xs.length) :
    Calls Try.prog 22 #[.int .u64 p, .int .i64 d, v, vb] w fun e w' => e = .returned (.tuple #[.slice none 0 0, .slice none 0 0, .int .i64 2]) ∧ Below w.heap.size w w' := by
  have hud : ∀ b : Bool, undef ≠ Value.bool b := fun b h => by cases h
  have hc := dcheck_any p d v xs ys w hp hv
  rw [h] at hc
  have HC := Lib.hid hc
  have h2 : ¬ (bs.length : Int) = (xs.length : Int) := fun e => hne (Int.ofNat.inj e)
  have h1 : ((bs.length : Int) != (xs.length : Int)) = true := by rw [bne_iff_ne]; exact h2
  obtain ⟨A, cap, rfl, _⟩ := hv.2.2.2.2
  obtain ⟨Ab, cb, rfl, _⟩ := hb.2
  clear hv hb hc h
  go_enter Try.func22, Try.ntmps22
  go_wp2_with fail
  refine HC.out.mono ?_
  rintro e w1 ⟨rfl, hb⟩
  have B1 := Lib.hid hb
  clear hb
  go_wp2
  go_ret3
  exact ⟨rfl, B1.out⟩

set_option maxHeartbeats 8000000 in
theorem rthere_any (v vb : Value) (xs ys : List Nat) (bs : List Bool) (w : World) (hl : xs.length ≤ 64) (hbl : bs.length = xs.length) (hv : Pts w v xs ys) (hb : Bools w vb bs) :
    Calls Try.prog 23 #[v, vb] w fun e w' => ∃ v1 v2, e = .returned (.tuple #[v1, v2]) ∧ Pts w' v1 (M.pick xs (M.thereK bs xs.length)) (M.pick ys (M.thereK bs xs.length)) ∧ Ints w' v2 (M.thereK bs xs.length) ∧ Below w.heap.size w w' := by
  have hud : ∀ b : Bool, undef ≠ Value.bool b := fun b h => by cases h
  have V1 := Lib.hid hv
  have C1 := Lib.hid hb
  obtain ⟨A, cap, rfl, _⟩ := hv.2.2.2.2
  obtain ⟨Ab, cb, rfl, _⟩ := hb.2
  obtain ⟨R, eR⟩ : ∃ R, xs.length = R := ⟨_, rfl⟩
  have HER := Lib.hid eR
  have HBL := Lib.hid (hbl.trans eR)
  rw [hbl, eR]
  rw [eR] at hl
  clear hv hb hbl eR
  go_enter Try.func23, Try.ntmps23
  go_wp2
  go_loopw [6, 7, 12] (fun tp ti t wr => ∃ k : Nat, k ≤ R ∧ t = .int .i64 k ∧ wr.ownsRow w.heap.size 64 2 tp (M.thereK bs k).length (ptL xs ys (M.thereK bs k)) ∧ wr.ownsRow w.heap.size 3 1 ti (M.thereK bs k).length (ints (M.thereK bs k)) ∧ Below w.heap.size w wr) (fun _ _ t _ => R - (intOf t).toNat)
  case atStart => exact ⟨0, by omega, rfl, World.ownsRow_nil _ _ _ _, World.ownsRow_nil _ _ _ _, Below.refl _ _⟩
  case round =>
    obtain ⟨k, hk, rfl, hp1, hp2, hB⟩ := hrel
    have HP1 := Lib.hid hp1
    have HP2 := Lib.hid hp2
    have HB := Lib.hid hB
    have hln := M.thereK_len bs k
    clear hp1 hp2 hB
    by_cases hlt : k < R
    · obtain ⟨b, off, rfl, hb, hcell⟩ := pts_cells V1.out (by rw [HER.out]; omega)
      obtain ⟨bb, ob, rfl, hbb, hcb⟩ := bools_cells C1.out (by rw [HBL.out]; omega)
      have hbs := HB.out.size
      have hc1 := (HB.out.cell (p := ⟨b, off + k * 2, none⟩) hb).trans (hcell k (by rw [HER.out]; exact hlt)).1
      have hc2 := (HB.out.cell (p := ⟨b, off + k * 2 + 1, none⟩) hb).trans (hcell k (by rw [HER.out]; exact hlt)).2
      have hc3 := (HB.out.cell (p := ⟨bb, ob + k, none⟩) hbb).trans (hcb k (by rw [HBL.out]; exact hlt))
      have hb1 : wr.heap.size ≠ b := by omega
      have hb2 : wr.heap.size ≠ bb := by omega
      have hb3 : bb ≠ wr.heap.size := by omega
      have hb4 : bb < wr.heap.size := by omega
      have hy1 := fun h => M.thereK_yes (bs := bs) (k := k) h
      have hn1 := fun h => M.thereK_no (bs := bs) (k := k) h
      have hsn := ptL_snoc xs ys (M.thereK bs k) k
      obtain ⟨x, hx⟩ : ∃ x, x = xs.getD k 0 := ⟨_, rfl⟩
      obtain ⟨y, hy⟩ : ∃ y, y = ys.getD k 0 := ⟨_, rfl⟩
      obtain ⟨z, hz⟩ : ∃ z, z = bs.getD k false := ⟨_, rfl⟩
      rw [← hx] at hc1 hsn
      rw [← hy] at hc2 hsn
      rw [← hz] at hc3 hy1 hn1
      have HY1 := Lib.hid hy1
      have HN1 := Lib.hid hn1
      have HSN := Lib.hid hsn
      obtain ⟨WP, eWP⟩ : ∃ W, W = wr.alloc (.cells #[.int .u64 (x : Nat), .int .u64 (y : Nat)] 64) := ⟨_, rfl⟩
      clear hx hy hz hcell hcb hy1 hn1 hsn eWP
      cases z with
      | false =>
        go_wp2
        go_roundw
        case rel => exact ⟨k + 1, by omega, by go_num, by rw [HN1.out rfl]; exact HP1.out.alloc _, by rw [HN1.out rfl]; exact HP2.out.alloc _, HB.out.alloc hbs _⟩
        case measure => simp [intOf]; omega
      | true =>
        have HX := Lib.hid (show ((wr.alloc (.cells #[.int .u64 (x : Nat), .int .u64 (y : Nat)] 64)).alloc (.cells #[.int .u64 (x : Nat), .int .u64 (y : Nat)] 64)).heap[wr.heap.size + 1]? = some (.cells #[.int .u64 (x : Nat), .int .u64 (y : Nat)] 64 (0, 0)) by
          have h := heap_alloc_new (wr.alloc (.cells #[.int .u64 (x : Nat), .int .u64 (y : Nat)] 64)) (.cells #[.int .u64 (x : Nat), .int .u64 (y : Nat)] 64)
          rw [World.size_alloc] at h
          exact h)
        have HO1 := Lib.hid ((HP1.out.alloc (.cells #[.int .u64 (x : Nat), .int .u64 (y : Nat)] 64)).alloc (.cells #[.int .u64 (x : Nat), .int .u64 (y : Nat)] 64))
        have HO2 := Lib.hid ((HP2.out.alloc (.cells #[.int .u64 (x : Nat), .int .u64 (y : Nat)] 64)).alloc (.cells #[.int .u64 (x : Nat), .int .u64 (y : Nat)] 64))
        have HB2 := Lib.hid ((HB.out.alloc hbs (.cells #[.int .u64 (x : Nat), .int .u64 (y : Nat)] 64)).alloc (by simp; omega) (.cells #[.int .u64 (x : Nat), .int .u64 (y : Nat)] 64))
        go_wp2_with (first
          | (at_builtin; refine wpList_append_ptAt (X := wr.heap.size + 1) rfl _ _ rfl rfl (by rfl) HX.out HO1.out (by omega) HB2.out.size ?_; intro v1 w2 ho1 hg1 hb1'; have HQ := Lib.hid (HO2.out.kept hg1 (own_apartG HO2.out HO1.out (by decide))); have HB3 := Lib.hid (HB2.out.trans hb1'); have hs3 := HB3.out.size; have HQ2 := Lib.hid (HQ.out.alloc (.cells #[.int .i64 (k : Nat)] 3)); have HR2 := Lib.hid (ho1.alloc (.cells #[.int .i64 (k : Nat)] 3)); have hs4 : w.heap.size ≤ (w2.alloc (.cells #[.int .i64 (k : Nat)] 3)).heap.size := (by simp; omega); have HX2 := Lib.hid (heap_alloc_new w2 (.cells #[.int .i64 (k : Nat)] 3)); clear ho1 hg1 hb1')
          | (at_builtin; refine wpList_append_intAt (X := w2.heap.size) rfl _ _ rfl rfl (by rfl) HX2.out HQ2.out (by omega) hs4 ?_; intro v2 w3 ho2 hg2 hb2'))
        have HR3 := Lib.hid (HR2.out.kept hg2 (own_apartG HR2.out HQ2.out (by decide)))
        have HB4 := Lib.hid ((HB3.out.alloc hs3 (.cells #[.int .i64 (k : Nat)] 3)).trans hb2')
        have HQ3 := Lib.hid ho2
        clear ho2 hg2 hb2'
        go_roundw
        case rel => exact ⟨k + 1, by omega, by go_num, by rw [HY1.out rfl, HSN.out, List.length_append]; exact HR3.out, by rw [HY1.out rfl, ints_snoc, List.length_append]; exact HQ3.out, HB4.out⟩
        case measure => simp [intOf]; omega
    · obtain rfl : R = k := by omega
      have hl2 := M.thereK_len bs R
      have hpts := pts_of_ptL (w := wr) (xs := xs) (ys := ys) (l := M.thereK bs R) V1.out.2.2.1 V1.out.2.2.2.1 V1.out.1 (fun i hi => by rw [HER.out]; exact M.thereK_lt hi) (by omega) HP1.out
      have HPT := Lib.hid hpts
      have HIN := Lib.hid (ints_of_owns HP2.out)
      clear hpts
      go_wp2
      go_ret2
      exact ⟨_, _, rfl, HPT.out, HIN.out, HB.out⟩
end Go.Proofs.Ytfgfapbhgehfiaa
