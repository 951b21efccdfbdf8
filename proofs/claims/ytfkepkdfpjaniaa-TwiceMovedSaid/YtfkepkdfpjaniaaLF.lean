/-
  P5, P6, P7, P8 (joined).
-/
import Derived.Test.YtfkepkdfpjaniaaLE
import Derived.Deep.OwnRows
import Derived.Laws.CopyOwn
import Derived.Deep.RegionHeld3
import Derived.Deep.RegionWith
namespace Go.Proofs.Ytfkepkdfpjaniaa
open Go.RowKit
set_option linter.unusedVariables false

/-- make([]uint64, n) where n is spelled otherwise: the new block, whole -/
theorem wpList_make_rowL {P : Program} (w : World) {ops : Array Oper} {rest : List Oper} {o : Oper} {a : Act} {Q : Exit → Act → World → Prop}
    (hg : o.guard = none) (l c : Operand) (t : TypeId) (hop : o.op = Op.makeSlice t l c)
    (e : TypeId) (i : TypeInfo) (z : Value) (ht : P.underlying t = some (.slice e)) (hi : P.info? e = some i) (hz : i.zero = some z) (hsize : i.size = 1) (hz1 : z.cells = #[z])
    (kl kc : IntKind) (L C : Int) (n : Nat) (hl : a.eval l = .int kl L) (hc : a.eval c = .int kc C) (hL : L = n) (hC : C = n) (hbytes : i.bytes * n ≤ 281474976710656) (h63 : n ≤ 9223372036854775807)
    (hK : ∀ rep : List Value, rep = List.replicate n z → wpList P ops Q rest (a.put o.dst (.slice (some ⟨w.heap.size, 0, none⟩) n n)) (w.alloc (.cells rep.toArray e))) :
    wpList P ops Q (o :: rest) a w := by
  subst hL; subst hC
  refine wpList_make_row w hg l c t hop e i z ht hi hz hsize hz1 kl kc n hl hc hbytes h63 ?_
  have : (madeCells #[z] n) = (List.replicate n z).toArray := by rw [← toList_madeCells_one]
  rw [this]; exact hK _ rfl

/-- copy of numbers into a new row of zeros that is long enough -/
theorem wpList_copy_nums {w : World} {ops : Array Oper} {rest : List Oper} {o : Oper} {a : Act} {Q : Exit → Act → World → Prop} (hgd : o.guard = none) (d s : Operand)
    (ho : o.op = .call { callee := .builtin .copy, args := #[d, s], argTypes := #[31, 31] }) (A : Option Addr) (n cap B : Nat) (f : List Nat) (rep : List Value) (hrep : rep = List.replicate n (.int .u64 0))
    (hd : a.eval d = .slice (some ⟨B, 0, none⟩) n n) (hs : a.eval s = .slice A f.length cap) (hg : w.heap[B]? = some (.cells rep.toArray 22 (0, 0))) (hC : Cells w A f) (hfn : f.length ≤ n)
    (h : ∀ w', Rw w' B n (fun i => f.getD i 0) → Below B w w' → B < w'.heap.size → wpList Try.prog ops Q rest (a.put o.dst (goInt f.length)) w') : wpList Try.prog ops Q (o :: rest) a w := by
  obtain ⟨i0, hi0, hz0, hz1, hz2⟩ := info_parts infoU64
  have hvl : (vals f).length = f.length := by simp [vals]
  refine wpList_copy_splice hgd d s 31 31 ho 22 Try.underlying31 (by rw [hi0]; simp [hz1]) (some ⟨B, 0, none⟩) A n n f.length cap hd hs B 0 rep 22 hg (vals f)
    (by rw [show Nat.min f.length n = f.length from Nat.min_eq_left hfn, hvl]) ?_ (by rw [hrep, List.length_replicate, hvl]; omega) (fun v hv => by unfold vals at hv; obtain ⟨z, _, rfl⟩ := List.mem_map.1 hv; rfl) B w (Below.refl _ _) (Nat.le_refl _) ?_
  · intro h0
    obtain ⟨b, off, rfl, hb, hc⟩ := hC (by omega)
    refine ⟨rfl, _, rfl, fun j v hv => ?_⟩
    have hj : j < f.length := by
      apply Nat.lt_of_not_le; intro hc
      rw [List.getElem?_eq_none (by omega)] at hv; cases hv
    rw [Addr.add_lit, hc j hj, ← hv]
    simp [vals, List.getD_eq_getElem?_getD, hj]
  · intro w1 HH1 hB1
    rw [hvl]
    have h1 := HH1.out
    refine h w1 (fun i hi => ⟨?_, frozen_of_row _ _ i _ _ h1⟩) hB1 (Array.getElem?_eq_some_iff.1 h1).1
    rw [cell_of_row _ _ i _ _ (0, 0) h1]
    unfold splice
    rw [hrep]
    by_cases hif : i < f.length
    · simp [vals, List.getElem?_append, hif, List.getD_eq_getElem?_getD]
    · simp only [List.take_zero, List.nil_append, Nat.zero_add, M.getD_ge (l := f) (Nat.le_of_not_lt hif)]
      rw [List.getElem?_toArray, List.getElem?_append_right (by omega)]
      rw [hvl, List.getElem?_drop, List.getElem?_replicate, if_pos (by omega)]; rfl

namespace M
/-- the row after j rounds -/
def plusAt (p : Nat) (f : List Nat) (k : Nat) (g : List Nat) (j i : Nat) : Nat := if i < j then (f.getD i 0 + k * g.getD i 0) % p else f.getD i 0
theorem plusAt_lt {p : Nat} (hp : 0 < p) {f : List Nat} (hf : within p f = true) (k : Nat) (g : List Nat) (j i : Nat) : plusAt p f k g j i < p := by
  unfold plusAt; split
  · exact Nat.mod_lt _ hp
  · exact within_getD hp hf i
theorem plusAt_step (p : Nat) (f : List Nat) (k : Nat) (g : List Nat) (j i : Nat) : (if i = j then (plusAt p f k g j j + k * g.getD j 0) % p else plusAt p f k g j i) = plusAt p f k g (j + 1) i := by
  by_cases h : i = j
  · subst h
    rw [if_pos rfl]; unfold plusAt; rw [if_neg (Nat.lt_irrefl _), if_pos (by omega)]
  · rw [if_neg h]; unfold plusAt
    by_cases h1 : i < j
    · rw [if_pos h1, if_pos (by omega)]
    · rw [if_neg h1, if_neg (by omega)]
theorem plusAt_end {p : Nat} (hp : 0 < p) {f : List Nat} (hf : within p f = true) (k : Nat) (g : List Nat) (i : Nat) : plusAt p f k g g.length i = (f.getD i 0 + k * g.getD i 0) % p := by
  unfold plusAt
  split
  · rfl
  · rw [getD_ge (l := g) (by omega), Nat.mul_zero, Nat.add_zero, Nat.mod_eq_of_lt (within_getD hp hf i)]
end M

set_option maxHeartbeats 1000000 in
theorem plus_any (p k : Nat) (vf vg : Value) (f g : List Nat) (w : World) (h2 : 0 < p) (hp : p ≤ 65537) (hk : k < p) (hwf : M.within p f = true) (hwg : M.within p g = true) (hfl : f.length ≤ 1000) (hgl : g.length ≤ 1000) (hf : Nums w vf f) (hg : Nums w vg g) :
    Calls Try.prog 107 #[.int .u64 p, vf, .int .u64 k, vg] w (Gives w (M.pplus p f k g)) := by
  obtain ⟨A, cap, rfl, _, hlf, hCf⟩ := nums_view hf
  obtain ⟨A2, cap2, rfl, _, hlg, hCg⟩ := nums_view hg
  have HF := Lib.hid hCf
  have HG := Lib.hid hCg
  have HWF := Lib.hid hwf
  have HWG := Lib.hid hwg
  obtain ⟨i0, hi0, hz0, hz1, hz2⟩ := info_parts infoU64
  obtain ⟨n, en⟩ : ∃ n, n = max f.length g.length := ⟨_, rfl⟩
  have hn1 : f.length ≤ n := by omega
  have hn2 : g.length ≤ n := by omega
  have EN := Lib.hid en
  have hnl : n ≤ 1000 := by omega
  clear hf hg hCf hCg hwf hwg en
  rcases Nat.lt_or_ge f.length g.length with hm | hm
  all_goals
    go_enter Try.func107, Try.ntmps107
    go_wp2_with (first | (refine wpList_make_rowL _ rfl _ _ 31 rfl 22 i0 (.int .u64 0) Try.underlying31 hi0 hz0 hz1 rfl .i64 .i64 _ _ n rfl rfl (by have := EN.out; omega) (by have := EN.out; omega) (by rw [hz2]; omega) (by omega) ?_; intro rep hrep; have HREP := Lib.hid hrep; clear hrep) | (refine wpList_copy_nums rfl (.tmp 18) (.tmp 19) rfl A n cap w.heap.size f rep HREP.out rfl rfl (World.alloc_heap_new w _) (HF.out.below (Nat.le_refl _) (balloc w _)) hn1 ?_; intro w1 hr hB1 hs1; have HR := Lib.hid hr; have HB1 := Lib.hid ((balloc w _).trans hB1); have HS1 := Lib.hid hs1; clear hr hB1 hs1))
    go_wp2_with fail
    go_loopw [23] (fun t wr => ∃ j : Nat, j ≤ g.length ∧ t = .int .i64 j ∧ Rw wr w.heap.size n (M.plusAt p f k g j) ∧ Below w.heap.size w wr ∧ w.heap.size < wr.heap.size) (fun t _ => g.length - (intOf t).toNat)
    case atStart => exact ⟨0, by omega, rfl, HR.out.congr (fun i _ => by unfold M.plusAt; rw [if_neg (by omega)]), HB1.out, HS1.out⟩
    case round =>
      obtain ⟨j, hj, rfl, hr, hB, hsz⟩ := hrel
      have HB2 := Lib.hid hB
      have HS2 := Lib.hid hsz
      clear hB hsz
      by_cases hlt : j < g.length
      · obtain ⟨b, off, rfl, hb, hcg⟩ := HG.out (by omega)
        have hc := (HB2.out.cell (p := ⟨b, off + j, none⟩) hb).trans (hcg j hlt)
        have hx := M.within_mem HWG.out hlt
        have hjn : j < n := by omega
        obtain ⟨c3, f3⟩ := hr j hjn
        have hlt3 := M.plusAt_lt h2 HWF.out k g j j
        have hr4 := (hr.set hjn ((M.plusAt p f k g j j + k * g.getD j 0) % p)).congr (fun i _ => M.plusAt_step p f k g j i)
        have hB4 := HB2.out.setCell (p := ⟨w.heap.size, j, none⟩) (Nat.le_refl _) (.int .u64 (((M.plusAt p f k g j j + k * g.getD j 0) % p : Nat) : Int))
        obtain ⟨x, ex⟩ : ∃ x, x = g.getD j 0 := ⟨_, rfl⟩
        obtain ⟨z, ez⟩ : ∃ z, z = M.plusAt p f k g j j := ⟨_, rfl⟩
        rw [← ex] at hc hx hr4 hB4
        rw [← ez] at c3 hlt3 hr4 hB4
        obtain ⟨m1, m2⟩ := mul_le hp hk hx
        have e5 : (((z + k * x) % p : Nat) : Int) = ((z : Int) + k * x) % p := by rw [Int.natCast_emod, Int.natCast_add, Int.natCast_mul]
        rw [e5] at hr4 hB4
        have HR4 := Lib.hid hr4
        have HB4 := Lib.hid hB4
        clear hr hr4 hB4 ex ez e5 hcg
        go_wp2_with fail
        go_roundw
        case rel => exact ⟨j + 1, by omega, by go_num, HR4.out, HB4.out, by simpa using HS2.out⟩
        case measure => simp [intOf]; omega
      · obtain rfl : j = g.length := by omega
        have hr5 := hr.congr (G := fun i => (f.getD i 0 + k * g.getD i 0) % p) (fun i _ => M.plusAt_end h2 HWF.out k g i)
        have HN5 := Lib.hid (hr5.nums HS2.out (by omega) (fun i _ => by have := Nat.mod_lt (f.getD i 0 + k * g.getD i 0) h2; omega))
        clear hr hr5
        go_wp2_with fail
        refine (trim_any _ _ _ HN5.out).mono ?_
        rintro e w4 ⟨v4, rfl, hn4, hb4⟩
        have HN4 := Lib.hid hn4
        have B4 := Lib.hid (HB2.out.trans (hb4.mono HB2.out.size))
        obtain ⟨a4, c4, rfl⟩ := nums_slice' hn4
        clear hn4 hb4
        go_wp2_with fail
        go_ret
        refine ⟨_, rfl, ?_, B4.out⟩
        unfold M.pplus M.poly
        rw [← EN.out]
        exact HN4.out
end Go.Proofs.Ytfkepkdfpjaniaa
namespace Go.Proofs.Ytfkepkdfpjaniaa
open Go.RowKit
set_option linter.unusedVariables false

/-- what is in the row after k rounds -/
def someOf (G : Nat → Nat) (k i : Nat) : Nat := if i < k then G i else 0
theorem someOf_step (G : Nat → Nat) (k i : Nat) : (if i = k then G k else someOf G k i) = someOf G (k + 1) i := by
  unfold someOf
  by_cases h : i = k
  · subst h; rw [if_pos rfl, if_pos (by omega)]
  · rw [if_neg h]
    by_cases h1 : i < k
    · rw [if_pos h1, if_pos (by omega)]
    · rw [if_neg h1, if_neg (by omega)]

set_option maxHeartbeats 1000000 in
theorem termwise_any (K : Nat) (F : Nat → Nat → Nat) (p : Nat) (vf vg : Value) (f g : List Nat) (w : World) (hK : K = 105 ∨ K = 109) (h2 : 0 < p) (hp : p ≤ 65537) (hwf : M.within p f = true) (hwg : M.within p g = true) (hfl : f.length ≤ 1000) (hgl : g.length ≤ 1000) (hf : Nums w vf f) (hg : Nums w vg g)
    (hop : ∀ a b W, a < p → b < p → Calls Try.prog K #[.int .u64 p, .int .u64 (a : Nat), .int .u64 (b : Nat)] W fun e W' => e = .returned (.tuple #[.int .u64 (F a b : Nat), .int .i64 0]) ∧ Below W.heap.size W W') (hF : ∀ a b, F a b < p) :
    Calls Try.prog 104 #[.int .u64 p, vf, vg, .func (.func K) #[] #[]] w (Gives w (M.tabM (max f.length g.length) fun i => F (f.getD i 0) (g.getD i 0))) := by
  obtain ⟨A, cap, rfl, _, hlf, _⟩ := nums_view hf
  obtain ⟨A2, cap2, rfl, _, hlg, _⟩ := nums_view hg
  have HF := Lib.hid hf
  have HG := Lib.hid hg
  have HWF := Lib.hid hwf
  have HWG := Lib.hid hwg
  have HOP := Lib.hid hop
  have HFL := Lib.hid hF
  obtain ⟨i0, hi0, hz0, hz1, hz2⟩ := info_parts infoU64
  obtain ⟨n, en⟩ : ∃ n, n = max f.length g.length := ⟨_, rfl⟩
  have hn1 : f.length ≤ n := by omega
  have hn2 : g.length ≤ n := by omega
  have EN := Lib.hid en
  have hnl : n ≤ 1000 := by omega
  rw [← en]
  clear hf hg hwf hwg en hop hF
  rcases hK with rfl | rfl
  all_goals
    rcases Nat.lt_or_ge f.length g.length with hm | hm
    all_goals
      go_enter Try.func104, Try.ntmps104
      go_wp2_with (refine wpList_make_rowL _ rfl _ _ 31 rfl 22 i0 (.int .u64 0) Try.underlying31 hi0 hz0 hz1 rfl .i64 .i64 _ _ n rfl rfl (by have := EN.out; omega) (by have := EN.out; omega) (by rw [hz2]; omega) (by omega) ?_; intro rep hrep; have HREP := Lib.hid hrep; clear hrep)
      have hr : Rw (w.alloc (.cells rep.toArray 22)) w.heap.size n (someOf (fun i => F (f.getD i 0) (g.getD i 0)) 0) := by
        intro i hi
        have h1 := World.alloc_heap_new w (.cells rep.toArray 22)
        refine ⟨?_, frozen_of_row _ _ i _ _ h1⟩
        rw [cell_of_row _ _ i _ _ (0, 0) h1, HREP.out]
        simp [someOf, hi]
      have HR := Lib.hid hr
      clear hr
      go_loopw [19] (fun t wr => ∃ k : Nat, k ≤ n ∧ t = .int .i64 k ∧ Rw wr w.heap.size n (someOf (fun i => F (f.getD i 0) (g.getD i 0)) k) ∧ Below w.heap.size w wr ∧ w.heap.size < wr.heap.size) (fun t _ => n - (intOf t).toNat)
      case atStart => exact ⟨0, by omega, rfl, HR.out, balloc w _, by simp⟩
      case round =>
        obtain ⟨k, hk, rfl, hr, hB, hsz⟩ := hrel
        have HB := Lib.hid hB
        have HR2 := Lib.hid hr
        have HS2 := Lib.hid hsz
        clear hB hr hsz
        by_cases hlt : k < n
        · have hx := M.within_getD h2 HWF.out k
          have hy := M.within_getD h2 HWG.out k
          have ht1 := Lib.hid (term_any _ f k wr (by omega) (HF.out.at (Nat.le_refl _) HB.out HF.out))
          have ht2 := Lib.hid (term_any _ g k wr (by omega) (HG.out.at (Nat.le_refl _) HB.out HG.out))
          have hst := someOf_step (fun i => F (f.getD i 0) (g.getD i 0)) k
          obtain ⟨x, ex⟩ : ∃ x, x = f.getD k 0 := ⟨_, rfl⟩
          obtain ⟨y, ey⟩ : ∃ y, y = g.getD k 0 := ⟨_, rfl⟩
          rw [← ex] at hx ht1 hst
          rw [← ey] at hy ht2 hst
          have HST := Lib.hid hst
          clear ex ey hst
          go_wp2_with fail
          refine ht1.out.mono ?_
          rintro e w' ⟨rfl, rfl⟩
          go_wp2_with fail
          refine ht2.out.mono ?_
          rintro e w' ⟨rfl, rfl⟩
          go_wp2_with fail
          refine (HOP.out x y _ hx hy).mono ?_
          rintro e w3 ⟨rfl, hb3⟩
          have hr3 := HR2.out.below hb3 HS2.out
          obtain ⟨c3, f3⟩ := hr3 k hlt
          have hr4 := (hr3.set hlt (F x y)).congr (fun i _ => HST.out i)
          have hB3 := bnext HB.out hb3
          have hB4 := hB3.setCell (p := ⟨w.heap.size, k, none⟩) (Nat.le_refl _) (.int .u64 ((F x y : Nat) : Int))
          have hs4 : w.heap.size < w3.heap.size := Nat.lt_of_lt_of_le HS2.out hb3.size
          have HR4 := Lib.hid hr4
          have HB4 := Lib.hid hB4
          have HS4 := Lib.hid hs4
          have hi1 : (k : Int) < (n : Nat) := by omega
          clear hr3 hr4 hB3 hB4 hb3 hs4
          go_wp2_with fail
          go_roundw
          case rel => exact ⟨k + 1, by omega, by go_num, HR4.out, HB4.out, by simpa using HS4.out⟩
          case measure => simp [intOf]; omega
        · obtain rfl : k = n := by omega
          go_wp2_with fail
          go_ret
          refine ⟨_, rfl, (HR2.out.congr (G := fun i => F (f.getD i 0) (g.getD i 0)) (fun i hi => ?_)).nums HS2.out (by omega) (fun i _ => ?_), HB.out⟩
          · unfold someOf; rw [if_pos hi]
          · have := HFL.out (f.getD i 0) (g.getD i 0); omega
end Go.Proofs.Ytfkepkdfpjaniaa
namespace Go.Proofs.Ytfkepkdfpjaniaa
open Go.RowKit
set_option linter.unusedVariables false

/-- the slice of points v reads as the places xs and the values ys -/
def Pts (w : World) (v : Value) (xs ys : List Nat) : Prop :=
  ys.length = xs.length ∧ xs.length ≤ 17592186043904 ∧ (∀ x ∈ xs, x < 18446744073709551616) ∧ (∀ y ∈ ys, y < 18446744073709551616) ∧ ∃ A cap, v = .slice A xs.length cap ∧ xs.length ≤ cap ∧
    (0 < xs.length → ∃ b off, A = some ⟨b, off, none⟩ ∧ b < w.heap.size ∧ ∀ i, i < xs.length → w.cell? ⟨b, off + i * 2, none⟩ = some (.int .u64 (xs.getD i 0 : Nat)) ∧ w.cell? ⟨b, off + i * 2 + 1, none⟩ = some (.int .u64 (ys.getD i 0 : Nat)))

namespace M
def chkP (p : Nat) (xs ys : List Nat) : Int := if isP p = false then 2 else if 201 < xs.length then 3 else if within p xs = true ∧ within p ys = true then 0 else 2
theorem chkP_no {p : Nat} (xs ys : List Nat) (h : isP p = false) : 2 = chkP p xs ys := by unfold chkP; rw [if_pos h]
theorem chkP_long {p : Nat} {xs ys : List Nat} (h : isP p = true) (hl : 201 < xs.length) : 3 = chkP p xs ys := by unfold chkP; rw [if_neg (by simp [h]), if_pos hl]
theorem chkP_out {p : Nat} {xs ys : List Nat} (h : isP p = true) (hl : ¬ 201 < xs.length) (hw : ¬ (within p xs = true ∧ within p ys = true)) : 2 = chkP p xs ys := by unfold chkP; rw [if_neg (by simp [h]), if_neg hl, if_neg hw]
theorem chkP_of {p : Nat} {xs ys : List Nat} (h : isP p = true) (hl : ¬ 201 < xs.length) (hw : within p xs = true ∧ within p ys = true) : 0 = chkP p xs ys := by unfold chkP; rw [if_neg (by simp [h]), if_neg hl, if_pos hw]
theorem chkP_ok {p : Nat} {xs ys : List Nat} (h : chkP p xs ys = 0) : isP p = true ∧ xs.length ≤ 201 ∧ within p xs = true ∧ within p ys = true := by
  unfold chkP at h
  split at h
  · cases h
  · split at h
    · cases h
    · split at h
      · rename_i h1 h2 h3; exact ⟨by simpa using h1, by omega, h3⟩
      · cases h
end M

set_option maxHeartbeats 1000000 in
theorem checkPoints_any (p : Nat) (v : Value) (xs ys : List Nat) (w : World) (hp : p < 18446744073709551616) (hv : Pts w v xs ys) :
    Calls Try.prog 110 #[.int .u64 p, v] w fun e w' => e = .returned (.int .i64 (M.chkP p xs ys)) ∧ Below w.heap.size w w' := by
  obtain ⟨hyl, hlen, hxu, hyu, A, cap, rfl, hcap, hC⟩ := hv
  have hc := is_any p w hp
  have HV := Lib.hid hC
  have HYL := Lib.hid hyl
  clear hC hcap hxu hyu hyl
  cases hi : M.isP p with
  | false =>
    rw [hi] at hc
    have HC := Lib.hid hc
    have HI := Lib.hid hi
    clear hi hc hp
    go_enter Try.func110, Try.ntmps110
    go_wp2_with (go_at_call 75; refine HC.out.mono ?_; rintro e w' ⟨rfl, rfl⟩)
    go_ret
    exact ⟨ret1 (M.chkP_no _ _ HI.out), Below.refl _ _⟩
  | true =>
    rw [hi] at hc
    have HC := Lib.hid hc
    have HI := Lib.hid hi
    clear hi hc
    by_cases hL : 201 < xs.length
    · go_enter Try.func110, Try.ntmps110
      go_wp2_with (go_at_call 75; refine HC.out.mono ?_; rintro e w' ⟨rfl, rfl⟩)
      go_ret
      exact ⟨ret1 (M.chkP_long HI.out hL), Below.refl _ _⟩
    · go_enter Try.func110, Try.ntmps110
      go_wp2_with (go_at_call 75; refine HC.out.mono ?_; rintro e w' ⟨rfl, rfl⟩)
      go_loopw [15] (fun t wr => ∃ k : Nat, k ≤ xs.length ∧ t = .int .i64 k ∧ M.within p (xs.take k) = true ∧ M.within p (ys.take k) = true ∧ Below w.heap.size w wr) (fun t _ => xs.length - (intOf t).toNat)
      case atStart => exact ⟨0, by omega, rfl, by simp [M.within], by simp [M.within], Below.refl _ _⟩
      case round =>
        obtain ⟨k, hk, rfl, hw1, hw2, hB⟩ := hrel
        have HW1 := Lib.hid hw1
        have HW2 := Lib.hid hw2
        have HB := Lib.hid hB
        clear hw1 hw2 hB
        by_cases hlt : k < xs.length
        · obtain ⟨b, off, rfl, hb, hcell⟩ := HV.out (by omega)
          have hc1 := (HB.out.cell (p := ⟨b, off + k * 2, none⟩) hb).trans (hcell k hlt).1
          have hc2 := (HB.out.cell (p := ⟨b, off + k * 2 + 1, none⟩) hb).trans (hcell k hlt).2
          obtain ⟨x, hx⟩ : ∃ x, x = xs.getD k 0 := ⟨_, rfl⟩
          obtain ⟨y, hy⟩ : ∃ y, y = ys.getD k 0 := ⟨_, rfl⟩
          rw [← hx] at hc1
          rw [← hy] at hc2
          have HX := Lib.hid hx
          have HY := Lib.hid hy
          have hud : ∀ b : Bool, undef ≠ Value.bool b := fun b h => by cases h
          clear hx hy hcell
          have hb1 : wr.heap.size ≠ b := by have := HB.out.size; omega
          by_cases hpx : p ≤ x
          · have g1 : decide ((p : Int) ≤ (x : Int)) = true := by simp; omega
            go_wp2
            go_ret
            refine ⟨ret1 (M.chkP_out HI.out hL (fun h => ?_)), HB.out.alloc HB.out.size _⟩
            have := M.within_mem h.1 hlt
            rw [← HX.out] at this
            omega
          · have g1 : decide ((p : Int) ≤ (x : Int)) = false := by simp; omega
            by_cases hpy : p ≤ y
            · have g2 : decide ((p : Int) ≤ (y : Int)) = true := by simp; omega
              go_wp2
              go_ret
              refine ⟨ret1 (M.chkP_out HI.out hL (fun h => ?_)), HB.out.alloc HB.out.size _⟩
              have := M.within_mem h.2 (show k < ys.length by have := HYL.out; omega)
              rw [← HY.out] at this
              omega
            · have g2 : decide ((p : Int) ≤ (y : Int)) = false := by simp; omega
              go_wp2
              go_roundw
              case rel => exact ⟨k + 1, by omega, by go_num, M.within_take hlt HW1.out (by rw [← HX.out]; omega), M.within_take (by have := HYL.out; omega) HW2.out (by rw [← HY.out]; omega), HB.out.alloc HB.out.size _⟩
              case measure => simp [intOf]; omega
        · go_wp2
          go_ret
          have hk' : k = xs.length := by omega
          have h := HW1.out
          have h2 := HW2.out
          rw [hk', List.take_length] at h
          rw [hk', ← HYL.out, List.take_length] at h2
          exact ⟨ret1 (M.chkP_of HI.out hL ⟨h, h2⟩), HB.out⟩
end Go.Proofs.Ytfkepkdfpjaniaa
namespace Go.Proofs.Ytfkepkdfpjaniaa
open Go.RowKit
set_option linter.unusedVariables false

/-- what Through answers where the points are in order -/
def ThruEnd (w : World) (p : Nat) (xs ys : List Nat) (e : Ending) (w' : World) : Prop :=
  Below w.heap.size w w' ∧ ((xs.Nodup ∧ ∃ v f, e = .returned (.tuple #[v, .int .i64 0]) ∧ Nums w' v f ∧ M.Thru p xs ys f) ∨ (¬ xs.Nodup ∧ e = .returned (.tuple #[.slice none 0 0, .int .i64 6])))

set_option maxHeartbeats 1000000 in
theorem through_bad (p : Nat) (v : Value) (xs ys : List Nat) (w : World) (hp : p < 18446744073709551616) (hv : Pts w v xs ys) (h : M.chkP p xs ys ≠ 0) :
    Calls Try.prog 92 #[.int .u64 p, v] w fun e w' => e = .returned (.tuple #[.slice none 0 0, .int .i64 (M.chkP p xs ys)]) ∧ Below w.heap.size w w' := by
  have HC := Lib.hid (checkPoints_any p v xs ys w hp hv)
  obtain ⟨_, _, _, _, A, cap, rfl, _, _⟩ := hv
  have hb : (M.chkP p xs ys != 0) = true := by rw [bne_iff_ne]; exact h
  obtain ⟨c, ec⟩ : ∃ c, c = M.chkP p xs ys := ⟨_, rfl⟩
  rw [← ec] at HC hb ⊢
  clear ec h hp
  go_enter Try.func92, Try.ntmps92
  go_wp2_with fail
  refine HC.out.mono ?_
  rintro e w1 ⟨rfl, hb1⟩
  have B1 := Lib.hid hb1
  clear hb1
  go_wp2_with fail
  go_ret2
  exact ⟨rfl, B1.out⟩

set_option maxHeartbeats 4000000 in
theorem through_any (p : Nat) (v : Value) (xs ys : List Nat) (w : World) (hv : Pts w v xs ys) (h : M.chkP p xs ys = 0) :
    Calls Try.prog 92 #[.int .u64 p, v] w (ThruEnd w p xs ys) := by
  obtain ⟨hi, hl, hwx, hwy⟩ := M.chkP_ok h
  obtain ⟨h3, hp⟩ := M.pos_of hi
  have hck := checkPoints_any p v xs ys w (by omega) hv
  rw [h] at hck
  have HC := Lib.hid hck
  obtain ⟨hyl, _, _, _, A, cap, rfl, _, hcells⟩ := hv
  have HI := Lib.hid hi
  have HWX := Lib.hid hwx
  have HWY := Lib.hid hwy
  have HYL := Lib.hid hyl
  have HV := Lib.hid hcells
  clear h hi hwx hwy hyl hcells hck
  go_enter Try.func92, Try.ntmps92
  go_wp2_with fail
  refine HC.out.mono ?_
  rintro e w1 ⟨rfl, hb1⟩
  have B1 := Lib.hid (hb1.trans (balloc w1 (.cells #[.int .u64 (1 : Nat)] 22) |>.mono hb1.size))
  clear hb1
  go_wp2_with fail
  have hz0 := nums1 w1 1 (by omega)
  go_loopw [7, 8, 22] (fun t7 t8 t wr => ∃ (k : Nat) (f z : List Nat), k ≤ xs.length ∧ t = .int .i64 k ∧ Nums wr t7 f ∧ Nums wr t8 z ∧ M.Newt p xs ys k f ∧ M.Node p xs k z ∧ M.Diff xs k ∧ Below w.heap.size w wr) (fun _ _ t _ => xs.length - (intOf t).toNat)
  case atStart => exact ⟨0, [], [1], by omega, rfl, ⟨by simp, by simp, .inl ⟨none, 0, rfl, rfl, fun _ => rfl⟩⟩, hz0, M.Newt.start _ _ _, M.Node.start (by omega) _, fun i j _ hj => by omega, B1.out⟩
  case round =>
    obtain ⟨k, f, z, hk, rfl, hf, hz, hN, hZ, hD, hB⟩ := hrel
    have HF := Lib.hid hf
    have HZ := Lib.hid hz
    have HN := Lib.hid hN
    have HZN := Lib.hid hZ
    have HD := Lib.hid hD
    have HB := Lib.hid hB
    clear hf hz hN hZ hD hB hz0
    by_cases hlt : k < xs.length
    · obtain ⟨b, off, rfl, hb, hcell⟩ := HV.out (by omega)
      have hc1 := (HB.out.cell (p := ⟨b, off + k * 2, none⟩) hb).trans (hcell k hlt).1
      have hc2 := (HB.out.cell (p := ⟨b, off + k * 2 + 1, none⟩) hb).trans (hcell k hlt).2
      have hx := M.within_mem HWX.out hlt
      have hy := M.within_mem HWY.out (show k < ys.length by have := HYL.out; omega)
      have hnext := fun h0 => M.Newt.step HI.out HWX.out HWY.out HYL.out hlt HN.out HZN.out h0
      have hznext := M.Node.step (by omega) HWX.out hlt HZN.out
      have hdnext := fun h0 => M.Diff.step HI.out HWX.out hlt HZN.out h0 HD.out
      have hdup := fun h0 => M.node_zero HI.out HWX.out hlt HZN.out h0
      obtain ⟨x, ex⟩ : ∃ x, x = xs.getD k 0 := ⟨_, rfl⟩
      obtain ⟨y, ey⟩ : ∃ y, y = ys.getD k 0 := ⟨_, rfl⟩
      rw [← ex] at hc1 hx hnext hznext hdnext hdup
      rw [← ey] at hc2 hy hnext
      have HNX := Lib.hid hnext
      have HZX := Lib.hid hznext
      have HDX := Lib.hid hdnext
      have HDU := Lib.hid hdup
      have hb1 : wr.heap.size ≠ b := by have := HB.out.size; omega
      have hhl := M.pev_lt z x (show 0 < p by omega)
      have hml := M.pev_lt f x (show 0 < p by omega)
      clear ex ey hcell hnext hznext hdnext hdup
      go_wp2_with fail
      refine (value_any p x _ z _ (by omega) hp hx HZN.out.1 (HZ.out.below (balloc wr (.cells #[.int .u64 x, .int .u64 y] 114)))).mono ?_
      rintro e w2 ⟨rfl, hb2⟩
      have cx : w2.cell? ⟨wr.heap.size, 0, none⟩ = some (.int .u64 x) := (hb2.cell (p := ⟨wr.heap.size, 0, none⟩) (by simp)).trans (by simp)
      have cy : w2.cell? ⟨wr.heap.size, 1, none⟩ = some (.int .u64 y) := (hb2.cell (p := ⟨wr.heap.size, 1, none⟩) (by simp)).trans (by simp)
      have B2 := Lib.hid (bnext (balloc wr (.cells #[.int .u64 x, .int .u64 y] 114)) hb2)
      obtain ⟨h, eh⟩ : ∃ h, h = M.pev p z x := ⟨_, rfl⟩
      rw [← eh] at hhl HNX HDX HDU ⊢
      clear hb2 eh
      by_cases h0 : h = 0
      · subst h0
        go_wp2_with fail
        go_ret2
        exact ⟨bnext HB.out B2.out, .inr ⟨HDU.out (by simp), rfl⟩⟩
      · have hbz : ((h : Int) == 0) = false := by rw [beq_eq_false_iff_ne]; omega
        have H0 := Lib.hid h0
        clear h0
        go_wp2_with fail
        have HF2 := Lib.hid (HF.out.below B2.out)
        obtain ⟨m, em⟩ : ∃ m, m = M.pev p f x := ⟨_, rfl⟩
        have hval := fun W (hW : Nums W u7 f) => value_any p x u7 f W (by omega) hp hx HN.out.1 hW
        rw [← em] at hml hval
        have HVAL := Lib.hid hval
        have HEM := Lib.hid em
        clear em hval
        have a1 : IntKind.u64.wrap ((y : Int) + p) = (y : Int) + p := by rw [IntKind.wrap_u64]; omega
        have a2 : IntKind.u64.wrap ((y : Int) + p - m) = (y : Int) + p - m := by rw [IntKind.wrap_u64]; omega
        go_region_with (first | (go_at_call 89; refine (HVAL.out _ ?_).mono ?_; exact HF2.out; rintro e w3 ⟨rfl, hb3⟩; have cx3 : w3.cell? ⟨wr.heap.size, 0, none⟩ = some (.int .u64 x) := (hb3.cell (p := ⟨wr.heap.size, 0, none⟩) (World.block_lt_of_cell? w2 _ cx)).trans cx; have cy3 : w3.cell? ⟨wr.heap.size, 1, none⟩ = some (.int .u64 y) := (hb3.cell (p := ⟨wr.heap.size, 1, none⟩) (World.block_lt_of_cell? w2 _ cy)).trans cy; have hz3 : w2.heap.size ≤ w3.heap.size := hb3.size))
        all_goals
          have B2d : Below wr.heap.size wr w2.drew := ⟨B2.out.os, B2.out.tape, B2.out.output, B2.out.size, B2.out.block⟩
          have B3 := Lib.hid (bnext B2d hb3)
          clear B2d
          obtain ⟨d, ed⟩ : ∃ d, d = (y + p - m) % p := ⟨_, rfl⟩
          have ed' : ((y : Int) + p - m) % p = (d : Nat) := by rw [ed, Int.natCast_emod, Int.natCast_sub (by omega), Int.natCast_add]
          have hdl : d < p := by rw [ed]; exact Nat.mod_lt _ (by omega)
          obtain ⟨q, eq⟩ : ∃ q, q = M.pw p h (p - 2) := ⟨_, rfl⟩
          have hql : q < p := by rw [eq]; exact M.pw_lt _ _ (by omega)
          have hpin := fun W => pinv_any p h W (M.valid1_iff.2 ⟨HI.out, hhl⟩) H0.out
          have hnx := HNX.out H0.out
          rw [← eq] at hpin hnx
          rw [← HEM.out, ← ed] at hnx
          obtain ⟨c, ec⟩ : ∃ c, c = d * q % p := ⟨_, rfl⟩
          have ec' : (d : Int) * q % p = (c : Nat) := by rw [ec, Int.natCast_emod, Int.natCast_mul]
          have hcl : c < p := by rw [ec]; exact Nat.mod_lt _ (by omega)
          rw [← ec] at hnx
          obtain ⟨m1, m2⟩ := mul_le hp hdl hql
          have HPIN := Lib.hid hpin
          have HNX2 := Lib.hid hnx
          have HEC := Lib.hid ec'
          rw [ed']
          clear hb3 ed ed' eq hpin hnx ec ec' a1 a2
          go_wp2_with fail
          refine (HPIN.out _).mono ?_
          rintro e w4 ⟨rfl, hb4⟩
          have cx4 : w4.cell? ⟨wr.heap.size, 0, none⟩ = some (.int .u64 x) := (hb4.cell (p := ⟨wr.heap.size, 0, none⟩) (World.block_lt_of_cell? w3 _ cx3)).trans cx3
          have B4 := Lib.hid (bnext B3.out hb4)
          clear hb4 cx3 cy3 cx cy
          go_wp2_with fail
          rw [HEC.out]
          have hfl := HN.out.2.2.1
          have hzl := HZN.out.2.1
          have HZL := Lib.hid hzl
          refine (plus_any p c _ _ f z _ (by omega) hp hcl HN.out.1 HZN.out.1 (by omega) (by omega) (HF.out.below B4.out) (HZ.out.below B4.out)).mono ?_
          rintro e w5 ⟨v5, rfl, hn5, hb5⟩
          have cx5 : w5.cell? ⟨wr.heap.size, 0, none⟩ = some (.int .u64 x) := (hb5.cell (p := ⟨wr.heap.size, 0, none⟩) (World.block_lt_of_cell? w4 _ cx4)).trans cx4
          have B5 := Lib.hid (bnext B4.out hb5)
          have HN5 := Lib.hid hn5
          clear hb5 cx4 hn5 hzl
          go_wp2_with fail
          refine (linear_any p x w5 hp hx).mono ?_
          rintro e w6 ⟨rfl, rfl⟩
          have hlr : (p - x) % p < p := Nat.mod_lt _ (by omega)
          have hn6 := nums2 w5 ((p - x) % p) 1 (by omega) (by omega)
          have B6 := Lib.hid (bnext B5.out (balloc w5 (.cells #[.int .u64 ((p - x) % p : Nat), .int .u64 (1 : Nat)] 22)))
          have hwl : M.within p [(p - x) % p, 1] = true := by unfold M.within; simp; omega
          have HN56 := Lib.hid (HN5.out.below (balloc w5 (.cells #[.int .u64 ((p - x) % p : Nat), .int .u64 (1 : Nat)] 22)))
          have hpr := fun W (hW : Nums W (.slice (some ⟨w5.heap.size, 0, none⟩) 2 2) [(p - x) % p, 1]) (hW2 : Nums W u8 z) => product_any p u8 _ z [(p - x) % p, 1] W (by omega) hp HZN.out.1 hwl (by have := HZL.out; omega) (by simp) hW2 hW
          have HPR := Lib.hid hpr
          have H6 := Lib.hid hn6
          clear hpr hn6 hwl hlr
          go_wp2_with fail
          refine (HPR.out _ H6.out (HZ.out.below B6.out)).mono ?_
          rintro e w7 ⟨v7, rfl, hn7, hb7⟩
          have HN7 := Lib.hid hn7
          have HN57 := Lib.hid (HN56.out.below hb7)
          have B7 := Lib.hid (bnext B6.out hb7)
          clear hb7 hn7
          go_wp2_with fail
          go_roundw
          case rel => exact ⟨k + 1, _, _, by omega, by go_num, HN57.out, HN7.out, HNX2.out, HZX.out, HDX.out H0.out, bnext HB.out B7.out⟩
          case measure => simp [intOf]; omega
    · obtain rfl : k = xs.length := by omega
      go_wp2_with fail
      go_ret2
      exact ⟨HB.out, .inl ⟨HD.out.nodup, _, f, rfl, HF.out, HN.out⟩⟩
end Go.Proofs.Ytfkepkdfpjaniaa
