/-
  Package share: Fits; the reference's Points and All.
-/
import Derived.Test.YtgoognipljknjaaS11
import Derived.Test.YtgoognipljknjaaAll4
import Derived.Lib.MinMax
namespace Go.Proofs.Ytgoognipljknjaa
open Go.RowKit
set_option linter.unusedVariables false
set_option maxRecDepth 100000

namespace M
/-- the points of n parties -/
def prts (n : Nat) : List Nat := tabM n fun i => i + 1
theorem prts_len (n : Nat) : (prts n).length = n := by simp [prts, tabM]
theorem prts_get {n i : Nat} (h : i < n) : (prts n).getD i 0 = i + 1 := by unfold prts; rw [tabM_get, if_pos h]
theorem prts_nodup (n : Nat) : (prts n).Nodup := by
  refine nodup_of_getD fun i j hij hj => ?_
  rw [prts_len] at hj
  rw [prts_get (by omega), prts_get hj]
  omega
theorem prts_within {p n : Nat} (h : n < p) : within p (prts n) = true := by
  refine within_of fun i hi => ?_
  rw [prts_len] at hi
  rw [prts_get hi]
  omega
theorem prts_lt {n : Nat} (hn : n ≤ 17592186043904) : ∀ x ∈ prts n, x < 18446744073709551616 := by
  intro x hx
  unfold prts tabM at hx
  obtain ⟨i, hi, rfl⟩ := List.mem_map.1 hx
  have := List.mem_range.1 hi
  omega
end M

/-- a made row of points, told by a function of the place -/
theorem Rw.startP {w : World} {base B n : Nat} (h : w.ownsRow base 86 2 (.slice (some ⟨B, 0, none⟩) n n) n (madeCells #[Value.int .u64 0, Value.int .u64 0] (n * 2)).toList) : Rw w B (n * 2) (fun _ => 0) := by
  intro i hi
  refine ⟨(h.cellAt i hi).trans ?_, h.frozenAt i⟩
  have e : (madeCells #[Value.int .u64 0, Value.int .u64 0] (n * 2)).toList = List.replicate (n * 2) (Value.int .u64 (0 : Nat)) := by
    apply List.ext_getElem?
    intro j
    simp only [madeCells]
    by_cases hj : j < n * 2
    · rcases Nat.mod_two_eq_zero_or_one j with h0 | h0 <;> simp [hj, h0]
    · simp [hj]
  rw [e]
  simp [hi]
theorem Rw.pts {w : World} {B n : Nat} {F : Nat → Nat} {xs ys : List Nat} (h : Rw w B (n * 2) F) (hB : B < w.heap.size) (hn : n ≤ 1000) (hx : xs.length = n) (hy : ys.length = n) (hx64 : ∀ x ∈ xs, x < 18446744073709551616) (hy64 : ∀ y ∈ ys, y < 18446744073709551616)
    (h0 : ∀ i, i < n → F (i * 2) = xs.getD i 0) (h1 : ∀ i, i < n → F (i * 2 + 1) = ys.getD i 0) : Pts w (.slice (some ⟨B, 0, none⟩) n n) xs ys := by
  refine ⟨by omega, by omega, hx64, hy64, _, _, by rw [hx], by omega, fun _ => ⟨B, 0, rfl, hB, fun i hi => ?_⟩⟩
  rw [hx] at hi
  rw [Nat.zero_add]
  exact ⟨by rw [(h (i * 2) (by omega)).1, h0 i hi], by rw [(h (i * 2 + 1) (by omega)).1, h1 i hi]⟩

set_option maxHeartbeats 1000000 in
theorem fits_arg (p : Nat) (n t d : Int) (v : Value) (zs : List Nat) (w : World) (hp : p < 18446744073709551616) (hn1 : -9223372036854775808 ≤ n) (hn2 : n ≤ 9223372036854775807) (ht1 : -9223372036854775808 ≤ t) (ht2 : t ≤ 9223372036854775807) (hd1 : -9223372036854775808 ≤ d) (hd2 : d ≤ 9223372036854775807) (hv : Nums w v zs)
    (h : M.okS p n t = false ∨ d < 0 ∨ (zs.length : Int) ≠ n) :
    Calls Try.prog 42 #[suV p n t, .int .i64 d, v] w fun e w' => e = .returned (.tuple #[.bool false, .int .i64 2]) ∧ Below w.heap.size w w' := by
  have HC := Lib.hid fun W => setup_any p n t W hp hn1 hn2 ht1 ht2
  have HB := Lib.hid (balloc w (Obj.cells #[Value.int IntKind.u64 p, Value.int IntKind.i64 n, Value.int IntKind.i64 t] 40))
  have hud : ∀ b : Bool, undef ≠ Value.bool b := fun b h => by cases h
  have hl := hv.2.1
  obtain ⟨A, cap, rfl⟩ := nums_slice' hv
  obtain ⟨L, eL⟩ : ∃ L, zs.length = L := ⟨_, rfl⟩
  rw [eL] at h hl ⊢
  unfold suV at HC ⊢
  clear hv eL
  cases hs : M.okS p n t with
  | false =>
    have e2 : M.errS p n t = 2 := by simp [M.errS, hs]
    rw [e2] at HC
    clear h
    go_enter Try.func42, Try.ntmps42
    go_wp2_with fail
    refine (HC.out _).mono ?_
    rintro e w1 ⟨rfl, hb1⟩
    have B1 := Lib.hid (bnext HB.out hb1)
    clear hb1
    go_wp2_with fail
    go_ret2
    exact ⟨rfl, B1.out⟩
  | true =>
    have e2 : M.errS p n t = 0 := by simp [M.errS, hs]
    rw [e2] at HC
    have h' := h.resolve_left (by simp [hs])
    clear h
    go_enter Try.func42, Try.ntmps42
    go_wp2_with fail
    refine (HC.out _).mono ?_
    rintro e w1 ⟨rfl, hb1⟩
    have B1 := Lib.hid (bnext HB.out hb1)
    have c1 : w1.cell? ⟨w.heap.size, 1, none⟩ = some (.int .i64 n) := by
      refine (hb1.cell (p := ⟨w.heap.size, 1, none⟩) (by simp)).trans (by simp)
    clear hb1
    by_cases h1 : d < 0
    · go_wp2_with fail
      go_ret2
      exact ⟨rfl, B1.out⟩
    have h2 : ((L : Int) != n) = true := by simp; omega
    go_wp2_with fail
    go_ret2
    exact ⟨rfl, B1.out⟩

/-- what Fits answers where its shares are as many as the parties -/
def FitsEnd (w : World) (p N : Nat) (d : Int) (zs : List Nat) (e : Ending) (w' : World) : Prop :=
  Below w.heap.size w w' ∧ ((M.within p zs = true ∧ ∃ f, M.Thru p (M.prts N) zs f ∧ e = .returned (.tuple #[.bool (decide ((f.length : Int) - 1 ≤ d)), .int .i64 0])) ∨
    (M.within p zs = false ∧ e = .returned (.tuple #[.bool false, .int .i64 2])))

set_option maxHeartbeats 2000000 in
theorem fits_any (p N : Nat) (t d : Int) (v : Value) (zs : List Nat) (w : World) (hok : M.okS p (N : Int) t = true) (hd1 : 0 ≤ d) (hd2 : d ≤ 9223372036854775807) (hv : Nums w v zs) (hl : zs.length = N) :
    Calls Try.prog 42 #[suV p (N : Int) t, .int .i64 d, v] w (FitsEnd w p N d zs) := by
  obtain ⟨hi, hn1, hn2, ht1, ht2, hnp⟩ := M.okS_iff.1 hok
  obtain ⟨h3, hp⟩ := M.pos_of hi
  have hC := fun W => setup_any p (N : Int) t W (by omega) (by omega) (by omega) (by omega) (by omega)
  rw [← M.errS_ok hok] at hC
  have HC := Lib.hid hC
  have hB0 := balloc w (.cells #[.int .u64 p, .int .i64 N, .int .i64 t] 40)
  have hK0 := kept3 w w.heap.size rfl (.int .u64 p) (.int .i64 N) (.int .i64 t) 40
  obtain ⟨w0, hw0⟩ : ∃ w0, w.alloc (.cells #[.int .u64 p, .int .i64 N, .int .i64 t] 40) = w0 := ⟨_, rfl⟩
  rw [hw0] at hB0 hK0
  have B0 := Lib.hid hB0
  have K0 := Lib.hid hK0
  obtain ⟨a0, a1, a2⟩ := hK0.c3
  have hT : ∀ W u, Pts W u (M.prts N) zs → Calls Try.prog 76 #[.int .u64 p, u] W fun e W' => Below W.heap.size W W' ∧ ((M.within p zs = true ∧ ∃ u f, e = .returned (.tuple #[u, .int .i64 0]) ∧ Nums W' u f ∧ M.Thru p (M.prts N) zs f) ∨ (M.within p zs = false ∧ e = .returned (.tuple #[.slice none 0 0, .int .i64 2]))) := by
    intro W u hP
    have hpw := M.prts_within (p := p) (n := N) (by omega)
    have hpl := M.prts_len N
    cases hw : M.within p zs with
    | true =>
      refine (through_any p u _ _ W hP (M.chkP_of hi (by omega) ⟨hpw, hw⟩).symm).mono ?_
      rintro e W' ⟨hb, ⟨_, u', f, rfl, hN, hT⟩ | ⟨hn, _⟩⟩
      · exact ⟨hb, .inl ⟨rfl, u', f, rfl, hN, hT⟩⟩
      · exact absurd (M.prts_nodup N) hn
    | false =>
      have hc := M.chkP_out (ys := zs) hi (xs := M.prts N) (by omega) (by rw [hw]; simp)
      refine (through_bad p u _ _ W (by omega) hP (by omega)).mono ?_
      rintro e W' ⟨rfl, hb⟩
      rw [← hc]
      exact ⟨hb, .inr ⟨rfl, rfl⟩⟩
  have HT := Lib.hid hT
  have HV := Lib.hid hv
  have hud : ∀ b : Bool, undef ≠ Value.bool b := fun b h => by cases h
  obtain ⟨i0, hi0, hz0, hz1, hz2⟩ := info_parts infoPt
  obtain ⟨A, cap, rfl⟩ := nums_slice' hv
  rw [hl] at HV ⊢
  have HL := Lib.hid hl
  unfold suV at HC ⊢
  have hNb : ((N : Int) != N) = false := by simp
  have hd0 : ¬ d < 0 := by omega
  clear hC hT hv hi hok hB0 hK0 hl
  go_enter Try.func42, Try.ntmps42
  go_wp2_with fail
  clear hw0
  refine (HC.out _).mono ?_
  rintro e w1 ⟨rfl, hb1⟩
  have B1 := Lib.hid (bnext B0.out hb1)
  have K1 := Lib.hid (K0.out.below hb1)
  obtain ⟨d0, d1, d2⟩ := K1.out.c3
  have hlt1 : w.heap.size < w1.heap.size := (K1.out _ (List.mem_cons_self ..)).1
  clear hb1 a0 a1 a2
  go_wp2_with (refine wpList_make_full _ rfl _ _ 55 rfl w1.heap.size 86 i0 (.agg #[.int .u64 0, .int .u64 0]) 2 Try.underlying55 hi0 hz0 hz1 .i64 .i64 _ _ N rfl rfl rfl rfl ?c1 ?c2 ?c3 ?_)
  case c1 => rw [hz2]; omega
  case c2 => unfold maxLen; omega
  case c3 => exact Nat.le_refl _
  intro w2 hown hgrow
  have S2 := Lib.hid ((Below.refl w1.heap.size w1).grown hgrow (Nat.le_refl _) (by simp))
  have HB2 := Lib.hid (bnext B1.out S2.out)
  have HR2 := Lib.hid (Rw.startP hown)
  have L2 : w1.heap.size < w2.heap.size := (hown.lt _ rfl).2
  have K2 := Lib.hid (K1.out.below S2.out)
  obtain ⟨B, eB⟩ : ∃ B, w1.heap.size = B := ⟨_, rfl⟩
  rw [eB] at HR2 L2 hlt1 ⊢
  have V2 := Lib.hid (HV.out.below HB2.out)
  clear hown hgrow eB S2 d0 d1 d2
  go_wp2_with fail
  go_loopw [33] (fun ti wr => ∃ k : Nat, k ≤ N ∧ ti = .int .i64 k ∧ B < wr.heap.size ∧ Below B w2 wr ∧ Rw wr B (N * 2) (fun j => if j / 2 < k then (if j % 2 = 0 then j / 2 + 1 else zs.getD (j / 2) 0) else 0)) (fun ti _ => N - (intOf ti).toNat)
  case atStart => exact ⟨0, by omega, rfl, L2, Below.refl _ _, HR2.out.congr (fun i hi => by simp)⟩
  case round =>
    obtain ⟨k, hk, rfl, hlt2, hB, hr⟩ := hrel
    have HBr := Lib.hid hB
    have HRr := Lib.hid hr
    clear hB hr
    by_cases hlt : k < N
    · obtain ⟨b, off, rfl, hb, hc0⟩ := nums_cell HV.out (i := k) (by rw [HL.out]; exact hlt)
      have hbB : b < B := by omega
      have hc := (HBr.out.cell (p := ⟨b, off + k, none⟩) hbB).trans ((HB2.out.cell (p := ⟨b, off + k, none⟩) hb).trans hc0)
      have hx64 : zs.getD k 0 < 18446744073709551616 := by
        have h := HV.out.1 (zs.getD k 0) (by rw [M.getD_lt (by rw [HL.out]; exact hlt)]; exact List.getElem_mem _)
        exact h
      obtain ⟨x, ex⟩ : ∃ x, x = zs.getD k 0 := ⟨_, rfl⟩
      rw [← ex] at hc hx64
      have HX := Lib.hid ex
      obtain ⟨q1, q2⟩ := HRr.out (k * 2) (by omega)
      obtain ⟨q3, q4⟩ := HRr.out (k * 2 + 1) (by omega)
      have hs := (HRr.out.set (i := k * 2) (by omega) (k + 1)).set (i := k * 2 + 1) (by omega) x
      have hb3 := (HBr.out.setCell (p := ⟨B, k * 2, none⟩) (Nat.le_refl _) (.int .u64 (k + 1 : Nat))).setCell (p := ⟨B, k * 2 + 1, none⟩) (Nat.le_refl _) (.int .u64 (x : Nat))
      rw [show ((k + 1 : Nat) : Int) = (k : Int) + 1 by omega] at hs hb3
      have HS := Lib.hid hs
      have HB3 := Lib.hid hb3
      have hkn : (k : Int) < (N : Nat) := by omega
      clear ex hc0 hs hb3
      go_wp2_with fail
      go_roundw
      case rel =>
        refine ⟨k + 1, by omega, by go_num, by simp; omega, HB3.out, HS.out.congr (fun i hi => ?_)⟩
        by_cases h1 : i = k * 2 + 1
        · have d1 : i / 2 = k := by omega
          have d2 : i % 2 = 1 := by omega
          rw [if_pos h1]
          simp only [d1, d2]
          simpa using HX.out
        · rw [if_neg h1]
          by_cases h2 : i = k * 2
          · have d1 : i / 2 = k := by omega
            have d2 : i % 2 = 0 := by omega
            rw [if_pos h2]
            simp [d1, d2]
          · rw [if_neg h2]
            by_cases h3 : i / 2 < k
            · rw [if_pos h3, if_pos (show i / 2 < k + 1 by omega)]
            · rw [if_neg h3, if_neg (show ¬ i / 2 < k + 1 by omega)]
      case measure => simp [intOf]; omega
    · obtain rfl : k = N := by omega
      have hP : Pts wr (.slice (some ⟨B, 0, none⟩) k k) (M.prts k) zs := by
        refine HRr.out.pts hlt2 (by omega) (M.prts_len k) HL.out (M.prts_lt (by omega)) HV.out.1 (fun i hi => ?_) (fun i hi => ?_)
        · rw [if_pos (by omega), if_pos (by omega), M.prts_get hi]; omega
        · rw [if_pos (by omega), if_neg (by omega), show (i * 2 + 1) / 2 = i by omega]
      have HTW := Lib.hid (HT.out wr _ hP)
      obtain ⟨e0, e1, e2⟩ := (K2.out.c3)
      have f0 := (HBr.out.cell (p := ⟨w.heap.size, 0, none⟩) hlt1).trans e0
      have BR := Lib.hid (HB2.out.trans (HBr.out.mono (show w.heap.size ≤ B by omega)))
      clear hP e0 e1 e2
      go_wp2_with fail
      refine HTW.out.mono ?_
      rintro e w3 ⟨hb3, ⟨hw, u, f, rfl, hN, hTh⟩ | ⟨hw, rfl⟩⟩
      · have B3 := Lib.hid (bnext BR.out hb3)
        have HW := Lib.hid hw
        have HTh := Lib.hid hTh
        have hfl := hTh.2.2.1
        rw [M.prts_len] at hfl
        obtain ⟨Af, capf, rfl⟩ := nums_slice' hN
        clear hb3 hw hTh hN
        go_wp2_with fail
        go_ret2
        exact ⟨B3.out, .inl ⟨HW.out, f, HTh.out, rfl⟩⟩
      · have B3 := Lib.hid (bnext BR.out hb3)
        have HW := Lib.hid hw
        clear hb3 hw
        go_wp2_with fail
        go_ret2
        exact ⟨B3.out, .inr ⟨HW.out, rfl⟩⟩

/-- a row of points, point by point -/
def ptRow4 (xs ys : List Nat) : Nat → List Value
  | 0 => []
  | k + 1 => ptRow4 xs ys k ++ [.int .u64 (xs.getD k 0 : Nat), .int .u64 (ys.getD k 0 : Nat)]
theorem ptRow4_len (xs ys : List Nat) : ∀ k, (ptRow4 xs ys k).length = k * 2
  | 0 => rfl
  | k + 1 => by simp [ptRow4, ptRow4_len xs ys k]; omega
theorem ptRow4_get (xs ys : List Nat) : ∀ (k i : Nat), i < k → (ptRow4 xs ys k)[i * 2]? = some (.int .u64 (xs.getD i 0 : Nat)) ∧ (ptRow4 xs ys k)[i * 2 + 1]? = some (.int .u64 (ys.getD i 0 : Nat))
  | 0, i, h => absurd h (by omega)
  | k + 1, i, h => by
    by_cases hk : i < k
    · obtain ⟨h1, h2⟩ := ptRow4_get xs ys k i hk
      unfold ptRow4
      rw [List.getElem?_append_left (by rw [ptRow4_len]; omega), List.getElem?_append_left (by rw [ptRow4_len]; omega)]
      exact ⟨h1, h2⟩
    · obtain rfl : i = k := by omega
      unfold ptRow4
      rw [List.getElem?_append_right (by rw [ptRow4_len]; omega), List.getElem?_append_right (by rw [ptRow4_len]; omega), ptRow4_len, Nat.sub_self, Nat.add_sub_cancel_left]
      exact ⟨rfl, rfl⟩
theorem pts_of_row4 {w : World} {base : Nat} {v : Value} {xs ys : List Nat} (hyl : ys.length = xs.length) (hx : ∀ x ∈ xs, x < 18446744073709551616) (hy : ∀ y ∈ ys, y < 18446744073709551616) (hl : xs.length ≤ 1000)
    (h : w.ownsRow base 86 2 v xs.length (ptRow4 xs ys xs.length)) : Pts w v xs ys := by
  have hlt := h.lt
  have hcells := fun g hg => h.cells (g := g) hg
  refine ⟨hyl, by omega, hx, hy, ?_⟩
  rcases h.2 with ⟨rfl, h0⟩ | ⟨g, cap, cur, rfl, hb, hg, hc, _⟩
  · exact ⟨none, 0, by rw [h0], by omega, fun h1 => absurd h1 (by omega)⟩
  · refine ⟨some ⟨g, 0, none⟩, cap, rfl, hc, fun _ => ⟨g, 0, rfl, (hlt g rfl).2, fun i hi => ?_⟩⟩
    obtain ⟨e1, e2⟩ := ptRow4_get xs ys xs.length i hi
    have h1 := hcells g rfl _ _ e1
    have h2 := hcells g rfl _ _ e2
    rw [Addr.add_lit] at h1 h2
    rw [Nat.add_assoc]
    exact ⟨h1, h2⟩

set_option maxHeartbeats 2000000 in
theorem rpts_any (v : Value) (zs : List Nat) (w : World) (hl : zs.length ≤ 1000) (hv : Nums w v zs) :
    Calls Try.prog 44 #[v] w fun e w' => ∃ u, e = .returned u ∧ Pts w' u (M.prts zs.length) zs ∧ Below w.heap.size w w' := by
  have HV := Lib.hid hv
  obtain ⟨i0, hi0, hz0, hz1, hz2⟩ := info_parts infoPt
  obtain ⟨A, cap, rfl⟩ := nums_slice' hv
  clear hv
  go_enter Try.func44, Try.ntmps44
  go_wp2_with fail
  go_loopw [3, 8] (fun tv ti wr => ∃ k : Nat, k ≤ zs.length ∧ ti = .int .i64 k ∧ wr.ownsRow w.heap.size 86 2 tv k (ptRow4 (M.prts zs.length) zs k) ∧ Below w.heap.size w wr) (fun _ ti _ => zs.length - (intOf ti).toNat)
  case atStart => exact ⟨0, by omega, rfl, World.ownsRow_nil _ _ _ _, Below.refl _ _⟩
  case round =>
    obtain ⟨k, hk, rfl, hown, hB⟩ := hrel
    have HO := Lib.hid hown
    have HBr := Lib.hid hB
    clear hown hB
    by_cases hlt : k < zs.length
    · obtain ⟨b, off, rfl, hb, hc0⟩ := nums_cell HV.out hlt
      have hc := (HBr.out.cell (p := ⟨b, off + k, none⟩) hb).trans hc0
      have hx64 := HV.out.1 (zs.getD k 0) (by rw [M.getD_lt hlt]; exact List.getElem_mem _)
      have hpr : ptRow4 (M.prts zs.length) zs (k + 1) = ptRow4 (M.prts zs.length) zs k ++ [.int .u64 ((M.prts zs.length).getD k 0 : Nat), .int .u64 (zs.getD k 0 : Nat)] := rfl
      rw [M.prts_get hlt, show ((k + 1 : Nat) : Int) = (k : Int) + 1 by omega] at hpr
      obtain ⟨x, ex⟩ : ∃ x, x = zs.getD k 0 := ⟨_, rfl⟩
      rw [← ex] at hc hx64 hpr
      have HPR := Lib.hid hpr
      have k1 : ∀ (j : Nat) (u : Value), [Value.int .u64 ((k : Int) + 1), Value.int .u64 (x : Nat)][j]? = some u → (wr.alloc (.cells #[.int .u64 ((k : Int) + 1), .int .u64 (x : Nat)] 86)).cell? ((⟨wr.heap.size, 0, none⟩ : Addr).add j) = some u := by
        intro j u hu
        rw [Addr.add_lit]
        match j, hu with
        | 0, hu => simpa using hu
        | 1, hu => simpa using hu
      have K1 := Lib.hid k1
      have hkn : (k : Int) < (zs.length : Nat) := by omega
      clear ex hc0 hpr k1
      go_wp2_with (at_builtin; refine wpList_append_own _ rfl _ _ 55 rfl w.heap.size 86 i0 (.agg #[.int .u64 0, .int .u64 0]) 2 16 Try.underlying55 hi0 hz0 hz1 hz2 rfl (by decide) _ _ _ rfl (HO.out.alloc _) ⟨wr.heap.size, 0, none⟩ 1 1 [.int .u64 ((k : Int) + 1), .int .u64 (x : Nat)] rfl rfl K1.out ?d2 ?d3 ?d4 ?d5 ?_)
      case d2 => intro u hu; simp at hu; rcases hu with rfl | rfl <;> rfl
      case d3 => unfold maxLen; omega
      case d4 => omega
      case d5 => have := HBr.out.size; simp; omega
      intro v' w4 hown' hgrow _
      have hlt' := fun r hr => (HO.out.lt r hr).1
      have HB4 := Lib.hid ((HBr.out.alloc HBr.out.size _).grown hgrow (by have := HBr.out.size; simp; omega) (fun r hr => hlt' r hr))
      rw [← HPR.out] at hown'
      have HOW := Lib.hid hown'
      clear hown' hgrow hlt'
      go_wp2_with fail
      go_roundw
      case rel => exact ⟨k + 1, by omega, by go_num, HOW.out, HB4.out⟩
      case measure => simp [intOf]; omega
    · obtain rfl : k = zs.length := by omega
      have hown := HO.out
      have HP := Lib.hid (pts_of_row4 (xs := M.prts zs.length) (ys := zs) (by rw [M.prts_len]) (M.prts_lt (by omega)) HV.out.1 (by rw [M.prts_len]; exact hl) (by rw [M.prts_len]; exact hown))
      clear hown
      go_wp2_with fail
      go_ret
      exact ⟨_, rfl, HP.out, HBr.out⟩
end Go.Proofs.Ytgoognipljknjaa
