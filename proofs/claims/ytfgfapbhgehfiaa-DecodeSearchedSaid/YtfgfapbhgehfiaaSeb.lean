/-
  The reference's search: one more point is chosen.
-/
import Derived.Test.YtfgfapbhgehfiaaSec
namespace Go.Proofs.Ytfgfapbhgehfiaa
open Go.RowKit
set_option linter.unusedVariables false
set_option maxRecDepth 100000

/-- what is known of the search with more points -/
def SeaIH (p d q : Nat) (v : Value) (xs ys : List Nat) (fr : Nat) : Prop := ∀ (fr2 : Nat) (idx : List Nat) (vc : Value) (w : World), fr < fr2 → fr2 ≤ xs.length → idx.Nodup → (∀ i ∈ idx, i < fr2) → idx.length ≤ d + 1 → Pts w v xs ys → Chosen w vc xs ys idx →
  Calls Try.prog 42 #[.int .u64 p, .int .i64 d, .int .i64 q, v, .int .i64 fr2, vc] w (SeaEnd w p d q xs ys idx fr2)

set_option maxHeartbeats 4000000 in
theorem search_step (p d q : Nat) (v vc : Value) (xs ys idx : List Nat) (fr : Nat) (w : World) (hok : M.DOk p d xs ys) (hq : q < 9223372036854775808) (hfr : fr ≤ xs.length) (hnd : idx.Nodup) (hlt : ∀ i ∈ idx, i < fr) (hl : idx.length < d + 1) (hv : Pts w v xs ys) (hc : Chosen w vc xs ys idx) (ih : SeaIH p d q v xs ys fr) :
    Calls Try.prog 42 #[.int .u64 p, .int .i64 d, .int .i64 q, v, .int .i64 fr, vc] w (SeaEnd w p d q xs ys idx fr) := by
  have hud : ∀ b : Bool, undef ≠ Value.bool b := fun b h => by cases h
  have hpl : (M.pick xs idx).length = idx.length := M.pick_len xs idx
  have HIH := Lib.hid ih
  have HV := Lib.hid hv
  have hcn := hc.2
  replace hc := hc.1
  have HCH := Lib.hid hc
  have HOK := Lib.hid hok
  have HND := Lib.hid hnd
  have HLT := Lib.hid hlt
  obtain ⟨n, en⟩ : ∃ n, n = idx.length := ⟨_, rfl⟩
  have HEN := Lib.hid en
  obtain ⟨Ac, cc, ec, _⟩ := hc.2.2.2.2
  rw [hpl, ← en] at ec
  subst ec
  obtain ⟨A, cap, rfl, _⟩ := hv.2.2.2.2
  have hd := hok.d63
  have hxl := hok.len
  have hw1 : IntKind.i64.wrap ((d : Int) + 1) = (d : Int) + 1 := by rw [IntKind.wrap_i64]; omega
  have hne : ((n : Int) == (d : Int) + 1) = false := by rw [beq_eq_false_iff_ne]; omega
  have hne2 : ¬ (n : Int) = (d : Int) + 1 := by omega
  rw [← en] at hl
  have HNIL := Lib.hid (show (M.pick xs idx).length = 0 → Value.slice Ac n cc = .slice none 0 0 from fun h => hcn (List.length_eq_zero_iff.1 (by rw [← hpl]; exact h)))
  have HPL := Lib.hid hpl
  clear hv hc hcn hok hlt hnd hpl en ih
  go_enter Try.func42, Try.ntmps42
  go_wp2_with fail
  go_loopw [15] (fun t wr => ∃ k : Nat, fr ≤ k ∧ k ≤ xs.length ∧ t = .int .i64 k ∧ (∀ i, fr ≤ i → i < k → M.NoFit p d q xs ys (idx ++ [i]) (i + 1)) ∧ Below w.heap.size w wr) (fun t _ => xs.length - (intOf t).toNat)
  case atStart => exact ⟨fr, Nat.le_refl _, hfr, rfl, fun i h1 h2 => absurd h2 (by omega), Below.refl _ _⟩
  case round =>
    obtain ⟨k, hk1, hk2, rfl, hno, hB⟩ := hrel
    have HNO := Lib.hid hno
    have HB := Lib.hid hB
    clear hno hB
    by_cases hlt : k < xs.length
    · obtain ⟨b, off, rfl, hb, hcell⟩ := pts_cells HV.out (by omega)
      have hbs := HB.out.size
      have hc1 := (HB.out.cell (p := ⟨b, off + k * 2, none⟩) hb).trans (hcell k hlt).1
      have hc2 := (HB.out.cell (p := ⟨b, off + k * 2 + 1, none⟩) hb).trans (hcell k hlt).2
      have hb1 : wr.heap.size ≠ b := by omega
      have hb3 : b ≠ wr.heap.size := by omega
      have hb4 : b < wr.heap.size := by omega
      have hnd2 : (idx ++ [k]).Nodup := by
        rw [List.nodup_append]
        refine ⟨HND.out, by simp, fun a ha c hc => ?_⟩
        simp at hc
        have := HLT.out a ha
        omega
      have hlt2 : ∀ i ∈ idx ++ [k], i < k + 1 := fun i hi => by
        rcases List.mem_append.1 hi with hi | hi
        · have := HLT.out i hi; omega
        · simp at hi; omega
      have hlen2 : (idx ++ [k]).length ≤ d + 1 := by rw [List.length_append, ← HEN.out]; simp; omega
      have HCALL := Lib.hid fun (W : World) (vc : Value) (hV : Pts W (.slice (some ⟨b, off, none⟩) xs.length cap) xs ys) (hC : Pts W vc (M.pick xs (idx ++ [k])) (M.pick ys (idx ++ [k]))) =>
        (show Calls Try.prog 42 #[.int .u64 p, .int .i64 d, .int .i64 q, .slice (some ⟨b, off, none⟩) xs.length cap, .int .i64 ((k : Int) + 1), vc] W (SeaEnd W p d q xs ys (idx ++ [k]) (k + 1)) from HIH.out (k + 1) (idx ++ [k]) vc W (by omega) (by omega) hnd2 hlt2 hlen2 hV ⟨hC, fun h => absurd h (by simp)⟩)
      have hwk : IntKind.i64.wrap ((k : Int) + 1) = (k : Int) + 1 := by rw [IntKind.wrap_i64]; omega
      have HROW := Lib.hid fun (W : World) (base : Nat) (v' : Value) (h : W.ownsRow base 64 2 v' (n + 1) (ptRow4 (M.pick xs idx) (M.pick ys idx) n ++ [.int .u64 (xs.getD k 0 : Nat), .int .u64 (ys.getD k 0 : Nat)])) =>
        (show Pts W v' (M.pick xs (idx ++ [k])) (M.pick ys (idx ++ [k])) from pts_of_ptL (l := idx ++ [k]) HV.out.2.2.1 HV.out.2.2.2.1 HV.out.1 (fun i hi => by have := hlt2 i hi; omega) (by rw [List.length_append, ← HEN.out]; simp; omega) (base := base) (by
          rw [ptL_snoc, ptL_row, List.length_append, ← HEN.out]
          exact h))
      obtain ⟨x, hx⟩ : ∃ x, x = xs.getD k 0 := ⟨_, rfl⟩
      obtain ⟨y, hy⟩ : ∃ y, y = ys.getD k 0 := ⟨_, rfl⟩
      rw [← hx] at hc1 HROW
      rw [← hy] at hc2 HROW
      obtain ⟨cx, ecx⟩ : ∃ cx, cx = M.pick xs idx := ⟨_, rfl⟩
      obtain ⟨cy, ecy⟩ : ∃ cy, cy = M.pick ys idx := ⟨_, rfl⟩
      have hcxl : cx.length = n := by rw [ecx, HPL.out, HEN.out]
      have hCH := HCH.out.below HB.out
      have hNIL := HNIL.out
      rw [← ecx, ← ecy] at hCH
      rw [← ecx] at hNIL
      rw [← ecx, ← ecy, ← hcxl] at HROW
      have HCH2 := Lib.hid hCH
      have HNIL2 := Lib.hid hNIL
      have HV2 := Lib.hid (HV.out.below HB.out)
      have hcx1 : cx.length ≤ 1000 := by omega
      have HCL := Lib.hid hcxl
      clear hx hy hcell ecx ecy hnd2 hlt2 hlen2 hCH hNIL hcxl
      have ba : Below wr.heap.size wr (wr.alloc (.cells #[] 64)).drew := (balloc wr (.cells #[] 64)).drew
      have bb : Below wr.heap.size wr ((wr.alloc (.cells #[] 64)).alloc (.cells #[.int .u64 (x : Nat), .int .u64 (y : Nat)] 64)).drew := ((balloc wr (.cells #[] 64)).alloc (by simp) (.cells #[.int .u64 (x : Nat), .int .u64 (y : Nat)] 64)).drew
      have bc : Below wr.heap.size wr ((wr.alloc (.cells #[.int .u64 (x : Nat), .int .u64 (y : Nat)] 64)).alloc (.cells #[] 64)).drew := ((balloc wr (.cells #[.int .u64 (x : Nat), .int .u64 (y : Nat)] 64)).alloc (by simp) (.cells #[] 64)).drew
      have oa : ((wr.alloc (.cells #[] 64)).drew).ownsRow wr.heap.size 64 2 (.slice (some ⟨wr.heap.size, 0, none⟩) 0 0) 0 [] := World.ownsRow_made (base := wr.heap.size) (e := 64) (size := 2) wr #[] 0 (Nat.le_refl _) (by decide) rfl
      have ob : (((wr.alloc (.cells #[] 64)).alloc (.cells #[.int .u64 (x : Nat), .int .u64 (y : Nat)] 64)).drew).ownsRow wr.heap.size 64 2 (.slice (some ⟨wr.heap.size, 0, none⟩) 0 0) 0 [] := oa.alloc _
      have oc : (((wr.alloc (.cells #[.int .u64 (x : Nat), .int .u64 (y : Nat)] 64)).alloc (.cells #[] 64)).drew).ownsRow wr.heap.size 64 2 (.slice (some ⟨wr.heap.size + 1, 0, none⟩) 0 0) 0 [] := by
        have h := World.ownsRow_made (base := wr.heap.size) (e := 64) (size := 2) (wr.alloc (.cells #[.int .u64 (x : Nat), .int .u64 (y : Nat)] 64)) #[] 0 (by simp) (by decide) rfl
        rw [World.size_alloc] at h
        exact h
      have xb : (((wr.alloc (.cells #[] 64)).alloc (.cells #[.int .u64 (x : Nat), .int .u64 (y : Nat)] 64)).drew).heap[wr.heap.size + 1]? = some (.cells #[.int .u64 (x : Nat), .int .u64 (y : Nat)] 64 (0, 0)) := by
        have h := heap_alloc_new (wr.alloc (.cells #[] 64)) (.cells #[.int .u64 (x : Nat), .int .u64 (y : Nat)] 64)
        rw [World.size_alloc] at h
        exact h
      have xc : (((wr.alloc (.cells #[.int .u64 (x : Nat), .int .u64 (y : Nat)] 64)).alloc (.cells #[] 64)).drew).heap[wr.heap.size]? = some (.cells #[.int .u64 (x : Nat), .int .u64 (y : Nat)] 64 (0, 0)) := (Below.heap_alloc (wr.alloc (.cells #[.int .u64 (x : Nat), .int .u64 (y : Nat)] 64)) (.cells #[] 64) wr.heap.size (by simp)).trans (heap_alloc_new wr _)
      have ca := HCH2.out.below ba
      have cb := HCH2.out.below bb
      have c3 := HCH2.out.below bc
      --PEEK
      go_wp2
      go_region_law (first
        | (refine step_append_pts rfl _ _ (by rfl) (cx := cx) (cy := cy) (base := wr.heap.size) (v := .slice (some ⟨wr.heap.size, 0, none⟩) 0 0) (by rfl) (by rfl) oa ca HNIL2.out hcx1 (by simp) ?_; intro v2 w2 hr2 hg2 hb2; have hb22 := ba.trans hb2; have hd1 := (hb22.cell (p := ⟨b, off + k * 2, none⟩) hb4).trans hc1; have hd2 := (hb22.cell (p := ⟨b, off + k * 2 + 1, none⟩) hb4).trans hc2; have hx2 := heap_alloc_new w2 (.cells #[.int .u64 (x : Nat), .int .u64 (y : Nat)] 64); have hr22 := hr2.alloc (.cells #[.int .u64 (x : Nat), .int .u64 (y : Nat)] 64); have hb23 := hb22.alloc hb22.size (.cells #[.int .u64 (x : Nat), .int .u64 (y : Nat)] 64); have hs22 := hb23.size)
        | (refine step_append_pts rfl _ _ (by rfl) (cx := cx) (cy := cy) (base := wr.heap.size) (v := .slice (some ⟨wr.heap.size, 0, none⟩) 0 0) (by rfl) (by rfl) ob cb HNIL2.out hcx1 (by simp; omega) ?_; intro v2 w2 hr2 hg2 hb2; have hb23 := bb.trans hb2; have hs22 := hb23.size; have hx2 := (hg2.block (wr.heap.size + 1) (by simp <;> omega) (by simp [Value.ownBlock])).trans xb)
        | (refine step_append_pts rfl _ _ (by rfl) (cx := cx) (cy := cy) (base := wr.heap.size) (v := .slice (some ⟨wr.heap.size + 1, 0, none⟩) 0 0) (by rfl) (by rfl) oc c3 HNIL2.out hcx1 (by simp; omega) ?_; intro v2 w2 hr2 hg2 hb2; have hb23 := bc.trans hb2; have hs22 := hb23.size; have hx2 := (hg2.block wr.heap.size (by simp <;> omega) (by simp [Value.ownBlock])).trans xc)
        | (refine step_append_pt rfl _ _ (by rfl) (X := w2.heap.size) (by rfl) (by rfl) hx2 hr22 hcx1 hs22 ?_; intro v3 w3 hr3 hb3; have hb33 := hb23.trans hb3; have hP3 := HROW.out _ _ _ hr3; have hV3 := HV2.out.below hb33)
        | (refine step_append_pt rfl _ _ (by rfl) (X := wr.heap.size + 1) (by rfl) (by rfl) hx2 hr2 hcx1 hs22 ?_; intro v3 w3 hr3 hb3; have hb33 := hb23.trans hb3; have hP3 := HROW.out _ _ _ hr3; have hV3 := HV2.out.below hb33)
        | (refine step_append_pt rfl _ _ (by rfl) (X := wr.heap.size) (by rfl) (by rfl) hx2 hr2 hcx1 hs22 ?_; intro v3 w3 hr3 hb3; have hb33 := hb23.trans hb3; have hP3 := HROW.out _ _ _ hr3; have hV3 := HV2.out.below hb33)
        | (go_simp; go_at_call 42; (with_reducible refine (HCALL.out _ _ hV3 hP3).mono ?_); rintro e w4 ⟨bo, v4, rfl, hyes, hnot, hb4⟩))
      --PEEK
      all_goals
        have B4 := Lib.hid (bnext HB.out (bnext hb33 hb4))
        have HYES := Lib.hid hyes
        have HNOT := Lib.hid hnot
        clear hyes hnot hb4 hV3 hP3 hb33 hb3 hr3 ba bb bc oa ob oc xb xc ca cb c3 HCALL HROW HCH2 HNIL2 HV2
        --PEEK
        cases bo with
        | true =>
          obtain ⟨f, hf, hg⟩ := HYES.out rfl
          have HF := Lib.hid hf
          have HG := Lib.hid hg
          clear hf hg
          go_wp2
          go_ret2
          exact SeaEnd.mk true _ rfl (fun _ => ⟨f, HF.out, HG.out⟩) (fun h => by cases h) B4.out
        | false =>
          have HK := Lib.hid (HNOT.out rfl)
          go_wp2
          go_roundw
          case rel =>
            refine ⟨k + 1, by omega, by omega, by go_num, fun i h1 h2 => ?_, B4.out⟩
            by_cases e : i < k
            · exact HNO.out i h1 e
            · obtain rfl : i = k := by omega
              exact HK.out
          case measure => simp [intOf]; omega
    · obtain rfl : k = xs.length := by omega
      have HF := Lib.hid (M.NoFit.step (p := p) (d := d) (q := q) (ys := ys) (idx := idx) (fr := fr) (by rw [← HEN.out]; exact hl) (fun i h1 h2 => HNO.out i h1 h2))
      go_wp2
      go_ret2
      exact SeaEnd.mk false _ rfl (fun h => by cases h) (fun _ => HF.out) HB.out

/-- the search, whatever has been chosen -/
theorem rsearch_any (p d q : Nat) (v : Value) (xs ys : List Nat) (hok : M.DOk p d xs ys) (hq : q < 9223372036854775808) : ∀ (m fr : Nat), xs.length - fr ≤ m → ∀ (idx : List Nat) (vc : Value) (w : World), fr ≤ xs.length → idx.Nodup → (∀ i ∈ idx, i < fr) → idx.length ≤ d + 1 → Pts w v xs ys → Chosen w vc xs ys idx →
    Calls Try.prog 42 #[.int .u64 p, .int .i64 d, .int .i64 q, v, .int .i64 fr, vc] w (SeaEnd w p d q xs ys idx fr)
  | m, fr, hm, idx, vc, w, hfr, hnd, hlt, hl, hv, hc => by
    by_cases h : idx.length = d + 1
    · exact search_base p d q v vc xs ys idx fr w hok hq hfr hnd hlt h hv hc.1
    · refine search_step p d q v vc xs ys idx fr w hok hq hfr hnd hlt (by omega) hv hc ?_
      cases m with
      | zero => exact fun fr2 idx2 vc2 w2 h1 h2 => absurd h1 (by omega)
      | succ m => exact fun fr2 idx2 vc2 w2 h1 h2 h3 h4 h5 h6 h7 => rsearch_any p d q v xs ys hok hq m fr2 (by omega) idx2 vc2 w2 h2 h3 h4 h5 h6 h7
/-- Search: what it finds -/
theorem rsearch (p d q : Nat) (v : Value) (xs ys : List Nat) (w : World) (hok : M.DOk p d xs ys) (hn : d + 1 + 2 * q ≤ xs.length) (hv : Pts w v xs ys) :
    Calls Try.prog 28 #[.int .u64 p, .int .i64 d, .int .i64 q, v] w fun e w' => ∃ (b : Bool) (v' : Value), e = .returned (.tuple #[v', .bool b]) ∧ (b = true → ∃ f, Nums w' v' f ∧ M.Good p d q xs ys f) ∧ (b = false → ∀ f, ¬ M.Good p d q xs ys f) ∧ Below w.heap.size w w' := by
  have hnil : Chosen w (.slice none 0 0) xs ys [] := ⟨⟨rfl, by simp [M.pick], by simp [M.pick], by simp [M.pick], none, 0, rfl, by simp [M.pick], fun h => absurd h (by simp [M.pick])⟩, fun _ => rfl⟩
  have HS := Lib.hid (rsearch_any p d q v xs ys hok (by have := hok.len; omega) _ 0 (Nat.le_refl _) [] (.slice none 0 0) w (by omega) (by simp) (by simp) (by simp) hv hnil)
  have HN := Lib.hid fun (h : M.NoFit p d q xs ys [] 0) => h.none (by omega)
  unfold SeaEnd at HS
  clear hv hnil
  go_enter Try.func28, Try.ntmps28
  go_wp2_with fail
  refine HS.out.mono ?_
  rintro e w1 ⟨b, v1, rfl, hy, hno, hb⟩
  have HY := Lib.hid hy
  have HB := Lib.hid hb
  have HNO := Lib.hid hno
  clear hy hno hb
  go_wp2_with fail
  go_ret2
  exact ⟨b, v1, rfl, HY.out, fun h => HN.out (HNO.out h), HB.out⟩
end Go.Proofs.Ytfgfapbhgehfiaa
