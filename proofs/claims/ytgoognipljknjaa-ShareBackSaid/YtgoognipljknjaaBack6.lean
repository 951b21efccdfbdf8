/-
  Sums and multiples of sharings; cuts of slices of points (merged).
-/
import Derived.Test.YtgoognipljknjaaSumR
import Derived.Test.YtgoognipljknjaaShsb
namespace Go.Proofs.Ytgoognipljknjaa
open Go.RowKit
set_option linter.unusedVariables false
set_option maxRecDepth 100000

theorem Kept.left {L M : List (Addr × Value)} {W : World} (h : Kept (L ++ M) W) : Kept L W := fun x hx => h x (List.mem_append_left _ hx)
theorem Kept.c9 {a b c d e f g i j : Addr} {x y z u v t x2 y2 z2 : Value} {W : World} (h : Kept [(a, x), (b, y), (c, z), (d, u), (e, v), (f, t), (g, x2), (i, y2), (j, z2)] W) :
    W.cell? a = some x ∧ W.cell? b = some y ∧ W.cell? c = some z ∧ W.cell? d = some u ∧ W.cell? e = some v ∧ W.cell? f = some t ∧ W.cell? g = some x2 ∧ W.cell? i = some y2 ∧ W.cell? j = some z2 :=
  ⟨h.of (by simp), h.of (by simp), h.of (by simp), h.of (by simp), h.of (by simp), h.of (by simp), h.of (by simp), h.of (by simp), h.of (by simp)⟩
theorem kept6 (w : World) (m : Nat) (hm : m = w.heap.size) (x y z u v t : Value) (ty : TypeId) : Kept [(⟨m, 0, none⟩, x), (⟨m, 1, none⟩, y), (⟨m, 2, none⟩, z), (⟨m, 3, none⟩, u), (⟨m, 4, none⟩, v), (⟨m, 5, none⟩, t)] (w.alloc (.cells #[x, y, z, u, v, t] ty)) := by
  subst hm
  intro q hq
  simp at hq
  rcases hq with rfl | rfl | rfl | rfl | rfl | rfl <;> simp

theorem mat2 (W : World) (vx vy : Value) (xs ys : List Nat) (hx : Nums W vx xs) (hy : Nums W vy ys) : Mat (W.alloc (.cells #[vx, vy] 24)) (.slice (some ⟨W.heap.size, 0, none⟩) 2 2) [xs, ys] := by
  refine ⟨by simp, _, _, rfl, by simp, fun _ => ⟨_, _, rfl, by simp, fun i hi => ?_⟩⟩
  have c := heap_alloc_new W (.cells #[vx, vy] 24)
  match i, hi with
  | 0, _ => exact ⟨vx, by rw [cell_of_row _ W.heap.size _ _ _ (0, 0) c]; rfl, hx.below (balloc _ _)⟩
  | 1, _ => exact ⟨vy, by rw [cell_of_row _ W.heap.size _ _ _ (0, 0) c]; rfl, hy.below (balloc _ _)⟩

theorem sum_pair (p N : Nat) (t : Int) (vx vy : Value) (xs ys : List Nat) (W : World) (hok : M.okS p (N : Int) t = true) (hlx : xs.length = N) (hly : ys.length = N) (hwx : M.within p xs = true) (hwy : M.within p ys = true) (hx : Nums W vx xs) (hy : Nums W vy ys) :
    Calls Try.prog 45 #[suV p (N : Int) t, .slice (some ⟨W.heap.size, 0, none⟩) 2 2] (W.alloc (.cells #[vx, vy] 24)) fun e w' => ∃ v, e = .returned (.tuple #[v, .int .i64 0]) ∧ Nums w' v (M.tabM N fun q => M.sumK (M.colK [xs, ys] q) 2 % p) ∧ Below W.heap.size W w' := by
  obtain ⟨hi, hn1, hn2, ht1, ht2, hnp⟩ := M.okS_iff.1 hok
  obtain ⟨h3, hp⟩ := M.pos_of hi
  have hg : SumGood p (N : Int) t [xs, ys] := by
    refine goodTo_all.1 ⟨hok, fun i hi => ?_⟩
    match i, hi with
    | 0, _ => exact ⟨by simp [hlx], hwx⟩
    | 1, _ => exact ⟨by simp [hly], hwy⟩
  refine (sumS_any p (N : Int) t _ [xs, ys] _ (by omega) (by omega) (by omega) (by omega) (by omega) (mat2 W vx vy xs ys hx hy)).mono ?_
  rintro e w' ⟨hb, ⟨_, v, rfl, hN⟩ | ⟨hng, _⟩⟩
  · exact ⟨v, rfl, hN, bnext (balloc _ _) hb⟩
  · exact absurd hg hng
theorem scale_good (p N c : Nat) (t : Int) (vx : Value) (xs : List Nat) (W : World) (hok : M.okS p (N : Int) t = true) (hlx : xs.length = N) (hwx : M.within p xs = true) (hc : c < p) (hx : Nums W vx xs) :
    Calls Try.prog 47 #[suV p (N : Int) t, vx, .int .u64 c] W (Gives2 W (M.sclL p xs c N)) := by
  obtain ⟨hi, hn1, hn2, ht1, ht2, hnp⟩ := M.okS_iff.1 hok
  obtain ⟨h3, hp⟩ := M.pos_of hi
  refine (scaleS_any p c (N : Int) t vx xs W (by omega) (by omega) (by omega) (by omega) (by omega) (by omega) hx).mono ?_
  rintro e w' (⟨_, hg⟩ | ⟨hng, _⟩)
  · rw [hlx] at hg; exact hg
  · exact absurd ⟨hok, by omega, hwx, hc⟩ hng
end Go.Proofs.Ytgoognipljknjaa
namespace Go.Proofs.Ytgoognipljknjaa.M
open Go.RowKit
set_option linter.unusedVariables false

/-- the sum of two sharings is the sharing of the sum -/
theorem shs_add {p N : Nat} (hp : 0 < p) (f g : List Nat) : tabM N (fun q => sumK (colK [shs p N f, shs p N g] q) 2 % p) = shs p N (padd p f g) := by
  refine ext_getD (by simp [tabM, shs]) fun i => ?_
  unfold shs
  rw [tabM_get, tabM_get]
  by_cases h : i < N
  · rw [if_pos h, if_pos h, pev_add]
    simp only [sumK, colK, tabM, List.length_cons, List.length_nil]
    simp [List.range_succ, h]
  · rw [if_neg h, if_neg h]
theorem shs_scale {p N k : Nat} (f : List Nat) : sclL p (shs p N f) k N = shs p N (pscale p f k) := by
  refine ext_getD (by simp [tabM, shs, sclL]) fun i => ?_
  unfold sclL
  rw [tabM_get]
  by_cases h : i < N
  · rw [if_pos h, shs_at f h, shs_at _ h, pev_scale]
  · rw [if_neg h, getD_ge (by simp [shs, tabM]; omega)]
end Go.Proofs.Ytgoognipljknjaa.M
namespace Go.Proofs.Ytgoognipljknjaa.M
open Go.RowKit
set_option linter.unusedVariables false

structure Sh (p D : Nat) (f : List Nat) : Prop where
  w : within p f = true
  t : trim f = f
  l : f.length ≤ D + 1
theorem Sh.add {p D : Nat} (hp : 0 < p) {f g : List Nat} (hf : Sh p D f) (hg : Sh p D g) : Sh p D (padd p f g) :=
  ⟨poly_within hp _ _, poly_trim _ _ _, Nat.le_trans (poly_len _ _ _) (by have := hf.l; have := hg.l; omega)⟩
theorem Sh.scale {p D : Nat} (hp : 0 < p) {f : List Nat} (hf : Sh p D f) (k : Nat) : Sh p D (pscale p f k) :=
  ⟨poly_within hp _ _, poly_trim _ _ _, Nat.le_trans (poly_len _ _ _) hf.l⟩
theorem drop_getD (l : List Nat) (k i : Nat) : (l.drop k).getD i 0 = l.getD (k + i) 0 := by
  rw [List.getD_eq_getElem?_getD, List.getD_eq_getElem?_getD, List.getElem?_drop]
theorem within_drop {p : Nat} {l : List Nat} (h : within p l = true) (k : Nat) : within p (l.drop k) = true :=
  within_of fun i hi => by rw [drop_getD]; rw [List.length_drop] at hi; exact within_mem h (by omega)
end M
open Go.RowKit

theorem pts_cut {W : World} {b off n cap : Nat} {xs ys : List Nat} (h : Pts W (.slice (some ⟨b, off, none⟩) n cap) xs ys) {k : Nat} (hk : k < n) :
    Pts W (.slice (some ⟨b, off + k * 2, none⟩) (n - k) (cap - k)) (xs.drop k) (ys.drop k) := by
  obtain ⟨h1, h2, h3, h4, A, c, e, h5, h6⟩ := h
  injection e with e1 e2 e3
  subst e1 e2 e3
  refine ⟨by simp [h1], by rw [List.length_drop]; omega, fun x hx => h3 x (List.mem_of_mem_drop hx), fun x hx => h4 x (List.mem_of_mem_drop hx), _, _, by rw [List.length_drop], by rw [List.length_drop]; omega, fun _ => ?_⟩
  obtain ⟨b', off', e, hb, hc⟩ := h6 (by omega)
  injection e with e
  injection e with e1 e2 e3
  subst e1 e2
  refine ⟨b, off + k * 2, rfl, hb, fun i hi => ?_⟩
  rw [List.length_drop] at hi
  obtain ⟨c1, c2⟩ := hc (k + i) (by omega)
  rw [M.drop_getD, M.drop_getD]
  rw [show off + k * 2 + i * 2 = off + (k + i) * 2 by omega]
  exact ⟨c1, c2⟩
theorem pts_addr {W : World} {v : Value} {xs ys : List Nat} (h : Pts W v xs ys) (hl : 0 < xs.length) : ∃ b off cap, v = .slice (some ⟨b, off, none⟩) xs.length cap ∧ xs.length ≤ cap := by
  obtain ⟨_, _, _, _, A, c, e, h5, h6⟩ := h
  obtain ⟨b, off, rfl, _, _⟩ := h6 hl
  exact ⟨b, off, c, e, h5⟩

theorem pts_addr' {W : World} {v : Value} {xs ys : List Nat} {n : Nat} (h : Pts W v xs ys) (hn : xs.length = n) (hl : 0 < n) : ∃ b off cap, v = .slice (some ⟨b, off, none⟩) n cap ∧ n ≤ cap := by
  subst hn; exact pts_addr h hl

theorem fits_good (p N D : Nat) (t : Int) (f : List Nat) (v : Value) (W : World) (hok : M.okS p (N : Int) t = true) (hD : D < N) (hs : M.Sh p D f) (hv : Nums W v (M.shs p N f)) :
    Calls Try.prog 42 #[suV p (N : Int) t, .int .i64 D, v] W fun e w' => e = .returned (.tuple #[.bool true, .int .i64 0]) ∧ Below W.heap.size W w' := by
  obtain ⟨hi, hn1, hn2, ht1, ht2, hnp⟩ := M.okS_iff.1 hok
  obtain ⟨h3, hp⟩ := M.pos_of hi
  have hw := M.shsb_within (p := p) (by omega) N f
  refine (fits_any p N t (D : Int) v _ W hok (by omega) (by omega) hv (M.shsb_len _ _ _)).mono ?_
  rintro e w' ⟨hb, ⟨_, f', hT, rfl⟩ | ⟨hn, _⟩⟩
  · have hl := hs.l
    obtain rfl := hT.unique hi (M.prts_nodup N) (M.prts_within (by omega)) (M.shs_thru hi (by omega) hs.w hs.t (by omega))
    rw [show decide (((f'.length : Int) - 1) ≤ (D : Int)) = true by simp; omega]
    exact ⟨rfl, hb⟩
  · rw [hw] at hn; cases hn

theorem secret_good (p D : Nat) (f xs ys : List Nat) (v : Value) (W : World) (hi : M.isP p = true) (hn : xs.Nodup) (hwx : M.within p xs = true) (hwy : M.within p ys = true) (hl : xs.length ≤ 14) (hD : D < xs.length) (hs : M.Sh p D f) (ht : ∀ i, i < xs.length → M.pev p f (xs.getD i 0) = ys.getD i 0) (hv : Pts W v xs ys) :
    Calls Try.prog 37 #[.int .u64 p, .int .i64 D, v] W fun e w' => e = .returned (.tuple #[.int .u64 (M.pev p f 0 : Nat), .int .i64 0]) ∧ Below W.heap.size W w' := by
  refine (secret_any p D v xs ys W (by omega) hv (M.chkP_of hi (by omega) ⟨hwx, hwy⟩).symm).mono ?_
  have hfl := hs.l
  rintro e w' ⟨hb, ⟨hnn, _⟩ | ⟨_, f', hT, h⟩⟩
  · exact absurd hn hnn
  · obtain rfl := hT.unique hi hn hwx ⟨hs.w, hs.t, by omega, ht⟩
    rcases h with ⟨h, _⟩ | ⟨_, h, _⟩ | ⟨_, _, rfl⟩
    · omega
    · omega
    · exact ⟨rfl, hb⟩
theorem secret_all (p N D : Nat) (t : Int) (f : List Nat) (v : Value) (W : World) (hok : M.okS p (N : Int) t = true) (hD : D < N) (hs : M.Sh p D f) (hv : Pts W v (M.prts N) (M.shs p N f)) :
    Calls Try.prog 37 #[.int .u64 p, .int .i64 D, v] W fun e w' => e = .returned (.tuple #[.int .u64 (M.pev p f 0 : Nat), .int .i64 0]) ∧ Below W.heap.size W w' := by
  obtain ⟨hi, hn1, hn2, ht1, ht2, hnp⟩ := M.okS_iff.1 hok
  obtain ⟨h3, hp⟩ := M.pos_of hi
  have hfl := hs.l
  exact secret_good p D f _ _ v W hi (M.prts_nodup N) (M.prts_within (by omega)) (M.shsb_within (by omega) N f) (by rw [M.prts_len]; omega) (by rw [M.prts_len]; omega) hs (M.shs_thru hi (by omega) hs.w hs.t (by omega)).2.2.2 hv
theorem secret_cut (p N D k : Nat) (t : Int) (f : List Nat) (v : Value) (W : World) (hok : M.okS p (N : Int) t = true) (hD : D + k < N) (hs : M.Sh p D f) (hv : Pts W v ((M.prts N).drop k) ((M.shs p N f).drop k)) :
    Calls Try.prog 37 #[.int .u64 p, .int .i64 D, v] W fun e w' => e = .returned (.tuple #[.int .u64 (M.pev p f 0 : Nat), .int .i64 0]) ∧ Below W.heap.size W w' := by
  obtain ⟨hi, hn1, hn2, ht1, ht2, hnp⟩ := M.okS_iff.1 hok
  obtain ⟨h3, hp⟩ := M.pos_of hi
  have hfl := hs.l
  have hth := (M.shs_thru hi (by omega) hs.w hs.t (show f.length ≤ N by omega)).2.2.2
  rw [M.prts_len] at hth
  refine secret_good p D f _ _ v W hi (M.prts_nodup N).drop (M.within_drop (M.prts_within (by omega)) k) (M.within_drop (M.shsb_within (by omega) N f) k) (by rw [List.length_drop, M.prts_len]; omega) (by rw [List.length_drop, M.prts_len]; omega) hs (fun i hi => ?_) hv
  rw [List.length_drop, M.prts_len] at hi
  rw [M.drop_getD, M.drop_getD]
  exact hth _ (by omega)

theorem mat3 (W : World) (vx vy vz : Value) (xs ys zs : List Nat) (hx : Nums W vx xs) (hy : Nums W vy ys) (hz : Nums W vz zs) : Mat (W.alloc (.cells #[vx, vy, vz] 24)) (.slice (some ⟨W.heap.size, 0, none⟩) 3 3) [xs, ys, zs] := by
  refine ⟨by simp, _, _, rfl, by simp, fun _ => ⟨_, _, rfl, by simp, fun i hi => ?_⟩⟩
  have c := heap_alloc_new W (.cells #[vx, vy, vz] 24)
  match i, hi with
  | 0, _ => exact ⟨vx, by rw [cell_of_row _ W.heap.size _ _ _ (0, 0) c]; rfl, hx.below (balloc _ _)⟩
  | 1, _ => exact ⟨vy, by rw [cell_of_row _ W.heap.size _ _ _ (0, 0) c]; rfl, hy.below (balloc _ _)⟩
  | 2, _ => exact ⟨vz, by rw [cell_of_row _ W.heap.size _ _ _ (0, 0) c]; rfl, hz.below (balloc _ _)⟩

theorem mat3_cell {w : World} {b n cap : Nat} {m : List (List Nat)} (h : Mat w (.slice (some ⟨b, 0, none⟩) n cap) m) {i : Nat} (hi : i < m.length) :
    b < w.heap.size ∧ ∃ u, w.cell? ⟨b, i, none⟩ = some u ∧ Nums w u (m.getD i []) := by
  obtain ⟨b', off, u, e, h1, h2, h3⟩ := mat_cell h hi
  simp only [Option.some.injEq, Addr.mk.injEq] at e
  obtain ⟨rfl, rfl, _⟩ := e
  rw [Nat.zero_add] at h2
  exact ⟨h1, u, h2, h3⟩
theorem tri (p N D : Nat) (f g h : List Nat) (hf : M.Sh p D f) (hg : M.Sh p D g) (hh : M.Sh p D h) (k : Nat) (hk : k < 3) : ∃ q, M.Sh p D q ∧ [M.shs p N f, M.shs p N g, M.shs p N h].getD k [] = M.shs p N q :=
  match k, hk with
  | 0, _ => ⟨f, hf, rfl⟩
  | 1, _ => ⟨g, hg, rfl⟩
  | 2, _ => ⟨h, hh, rfl⟩
end Go.Proofs.Ytgoognipljknjaa
