/-
  Package share: Sum and Scale (merged).
-/
import Derived.Test.YtgoognipljknjaaLaw4a
import Derived.Test.YtgoognipljknjaaSum4
import Derived.StillTailTactics
namespace Go.Proofs.Ytgoognipljknjaa
open Go.RowKit
set_option linter.unusedVariables false
set_option maxRecDepth 100000

namespace M
def sclE (p : Nat) (zs : List Nat) (c k : Nat) : Int := if zs.getD k 0 < p ∧ c < p then 0 else 2
def sclF (p : Nat) (zs : List Nat) (c k : Nat) : Nat := if zs.getD k 0 < p ∧ c < p then zs.getD k 0 * c % p else 0
end M
theorem Kept.nil (W : World) : Kept [] W := fun x hx => by cases hx
theorem Kept.cons {a : Addr} {v : Value} {L : List (Addr × Value)} {W : World} (hc : W.cell? a = some v) (h : Kept L W) : Kept ((a, v) :: L) W := fun x hx => by
  rcases List.mem_cons.1 hx with rfl | hx
  · exact ⟨World.block_lt_of_cell? W _ hc, hc⟩
  · exact h x hx
theorem Kept.c4 {a b c d : Addr} {x y z u : Value} {L : List (Addr × Value)} {W : World} (h : Kept ((a, x) :: (b, y) :: (c, z) :: (d, u) :: L) W) :
    W.cell? a = some x ∧ W.cell? b = some y ∧ W.cell? c = some z ∧ W.cell? d = some u := ⟨h.c3.1, h.c3.2.1, h.c3.2.2, h.tail.tail.tail.of (by simp)⟩

theorem scale1_any (p k c : Nat) (A : Option Addr) (N cap : Nat) (zs : List Nat) (a0 a1 a2 : Nat) (w : World) (hi : M.isP p = true) (hk : k < N) (hN : N ≤ 13) (hl : zs.length = N) (hv : Nums w (.slice A N cap) zs) (hc : c < 18446744073709551616)
    (c0 : w.cell? ⟨a0, 0, none⟩ = some (.int .u64 p)) (c1 : w.cell? ⟨a1, 0, none⟩ = some (.slice A N cap)) (c2 : w.cell? ⟨a2, 0, none⟩ = some (.int .u64 c)) :
    Calls Try.prog 80 #[.int .i64 ((k : Int) + 1), .pointer (some ⟨a0, 0, none⟩), .pointer (some ⟨a1, 0, none⟩), .pointer (some ⟨a2, 0, none⟩)] w fun e w' => e = .returned (.tuple #[.int .u64 (M.sclF p zs c k : Nat), .int .i64 (M.sclE p zs c k)]) ∧ Below w.heap.size w w' := by
  obtain ⟨h3, hp⟩ := M.pos_of hi
  obtain ⟨b, off, rfl, hb, hcell⟩ := nums_cell hv (i := k) (by omega)
  have hx64 := hv.1 (zs.getD k 0) (by rw [M.getD_lt (by omega)]; exact List.getElem_mem _)
  have hm : ∀ W, Calls Try.prog 81 #[.int .u64 p, .int .u64 (zs.getD k 0), .int .u64 c] W fun e w' => e = .returned (.tuple #[.int .u64 (M.sclF p zs c k : Nat), .int .i64 (M.sclE p zs c k)]) ∧ Below W.heap.size W w' := by
    intro W
    unfold M.sclF M.sclE
    by_cases hh : zs.getD k 0 < p ∧ c < p
    · rw [if_pos hh, if_pos hh]
      exact mul_ok p _ c W (M.valid2_iff.2 ⟨hi, hh.1, hh.2⟩)
    · rw [if_neg hh, if_neg hh]
      exact mul_bad p _ c W (by omega) hx64 hc (by
        cases hv2 : M.validB p [zs.getD k 0, c] with
        | false => rfl
        | true => have := M.valid2_iff.1 hv2; exact absurd ⟨this.2.1, this.2.2⟩ hh)
  obtain ⟨x, ex⟩ : ∃ x, x = zs.getD k 0 := ⟨_, rfl⟩
  obtain ⟨z, ez⟩ : ∃ z, z = M.sclF p zs c k := ⟨_, rfl⟩
  obtain ⟨c', ec'⟩ : ∃ c', c' = M.sclE p zs c k := ⟨_, rfl⟩
  rw [← ex] at hcell
  rw [← ez, ← ec'] at hm ⊢
  rw [← ex] at hm
  have HM := Lib.hid hm
  have hw0 : IntKind.i64.wrap (k : Int) = k := IntWalk.i64_in _ (by omega)
  have hw1 : IntKind.i64.wrap ((k : Int) + 1 - 1) = k := by rw [Int.add_sub_cancel]; exact hw0
  have hkn : (k : Int) < (N : Nat) := by omega
  clear ex ez ec' hv hi hm hl hx64
  go_enter Try.func80, Try.ntmps80
  go_wp2_with fail
  have hK : Kept [(⟨a0, 0, none⟩, .int .u64 p), (⟨a1, 0, none⟩, .slice (some ⟨b, off, none⟩) N cap), (⟨a2, 0, none⟩, .int .u64 c), (⟨b, off + k, none⟩, .int .u64 x)] w := ((((Kept.nil w).cons hcell).cons c2).cons c1).cons c0
  go_region_held3 (fun W' => W'.cell? ⟨a0, 0, none⟩ = some (.int .u64 p) ∧ W'.cell? ⟨a1, 0, none⟩ = some (.slice (some ⟨b, off, none⟩) N cap) ∧ W'.cell? ⟨a2, 0, none⟩ = some (.int .u64 c) ∧ W'.cell? ⟨b, off + k, none⟩ = some (.int .u64 x))
    (first | exact hK.c4 | go_keep | exact q1.c4)
    (first | (go_at_call 81; refine (HM.out _).mono ?_; rintro e w1 ⟨rfl, hb1⟩; have q1 := hK.below (below_of_drew hb1)))
  all_goals
    have B1 := Lib.hid (show Below w.heap.size w w1 from below_of_drew hb1)
    clear hb1 q1 hK
    go_wp2_with fail
    go_ret2
    exact ⟨rfl, B1.out⟩

theorem Keeps.refl (g : Nat) (w : World) : Keeps g w w := ⟨Nat.le_refl _, fun _ _ _ => rfl⟩
theorem Keeps.trans {g : Nat} {a b c : World} (h : Keeps g a b) (k : Keeps g b c) : Keeps g a c :=
  ⟨Nat.le_trans h.1 k.1, fun B hB hg => (k.2 B (Nat.lt_of_lt_of_le hB h.1) hg).trans (h.2 B hB hg)⟩
theorem Keeps.set {g : Nat} {a b : World} (h : Keeps g a b) (i : Nat) (u : Value) : Keeps g a (b.setCell ⟨g, i, none⟩ u) :=
  ⟨by have := h.1; simpa using this, fun B hB hg => (Below.heap_setCell b ⟨g, i, none⟩ u B (fun e => hg e)).trans (h.2 B hB hg)⟩
theorem Keeps.cell {g : Nat} {a b : World} (h : Keeps g a b) {p : Addr} (hp : p.block < a.heap.size) (hg : p.block ≠ g) : b.cell? p = a.cell? p := World.cell?_of_block (w := a) (h.2 p.block hp hg)

namespace M
/-- the q-th number of every list -/
def colK (m : List (List Nat)) (q : Nat) : List Nat := tabM m.length fun i => (m.getD i []).getD q 0
theorem colK_len (m : List (List Nat)) (q : Nat) : (colK m q).length = m.length := by simp [colK, tabM]
def sumE (p : Nat) (m : List (List Nat)) (q : Nat) : Int := if within p (colK m q) = true then 0 else 2
def sumF (p : Nat) (m : List (List Nat)) (q : Nat) : Nat := if within p (colK m q) = true then sumK (colK m q) m.length % p else 0
end M

set_option maxHeartbeats 2000000 in
theorem sum1_any (p q N L : Nat) (al sa ao g : Nat) (Al : Option Addr) (capl : Nat) (m : List (List Nat)) (F : Nat → Nat) (w0 w : World) (hi : M.isP p = true) (hq : q < N) (hN : N ≤ 13) (hL : m.length = L)
    (hm : Mat w0 (.slice Al L capl) m) (hrow : ∀ i, i < L → (m.getD i []).length = N) (hb0 : Below w0.heap.size w0 w) (hg0 : w0.heap.size ≤ g) (hg : g < w.heap.size) (hr : Rw w g L F)
    (h1 : al < w.heap.size ∧ al ≠ g) (h2 : sa < w.heap.size ∧ sa ≠ g) (h3' : ao < w.heap.size ∧ ao ≠ g)
    (c0 : w.cell? ⟨al, 0, none⟩ = some (.slice Al L capl)) (c1 : w.cell? ⟨ao, 0, none⟩ = some (.slice (some ⟨g, 0, none⟩) L L)) (c2 : w.cell? ⟨sa, 0, none⟩ = some (.int .u64 p)) :
    Calls Try.prog 78 #[.int .i64 ((q : Int) + 1), .pointer (some ⟨al, 0, none⟩), .pointer (some ⟨ao, 0, none⟩), .pointer (some ⟨sa, 0, none⟩)] w fun e w' => e = .returned (.tuple #[.int .u64 (M.sumF p m q : Nat), .int .i64 (M.sumE p m q)]) ∧ Keeps g w w' ∧ Below w0.heap.size w w' ∧ ∃ F', Rw w' g L F' := by
  obtain ⟨h3, hp⟩ := M.pos_of hi
  have HM := Lib.hid hm
  have HR := Lib.hid hr
  have HB0 := Lib.hid hb0
  have HROW := Lib.hid hrow
  have HL := Lib.hid hL
  have hLl := hm.1
  rw [hL] at hLl
  have C1 := Lib.hid c1
  have C2 := Lib.hid c2
  have hw0 : IntKind.i64.wrap (q : Int) = q := IntWalk.i64_in _ (by omega)
  have hw1 : IntKind.i64.wrap ((q : Int) + 1 - 1) = q := by rw [Int.add_sub_cancel]; exact hw0
  have hqn : (q : Int) < (N : Nat) := by omega
  have hsum : ∀ W u, Nums W u (M.colK m q) → Calls Try.prog 79 #[.int .u64 p, u] W fun e w' => e = .returned (.tuple #[.int .u64 (M.sumF p m q : Nat), .int .i64 (M.sumE p m q)]) ∧ W = w' := by
    intro W u hN
    cases hw : M.within p (M.colK m q) with
    | true =>
      have h := sum_ok p _ _ W (by unfold M.validB; rw [hi, hw]; rfl) (by rw [M.colK_len]; omega) hN
      unfold M.sumF M.sumE
      rw [if_pos hw, if_pos hw]
      rw [M.colK_len] at h
      exact h
    | false =>
      have h := sum_bad p _ _ W (by omega) (by unfold M.validB; rw [hi, hw]; rfl) hN
      unfold M.sumF M.sumE
      rw [if_neg (by rw [hw]; simp), if_neg (by rw [hw]; simp)]
      exact h
  obtain ⟨y, ey⟩ : ∃ y, y = M.sumF p m q := ⟨_, rfl⟩
  obtain ⟨c, ec⟩ : ∃ c, c = M.sumE p m q := ⟨_, rfl⟩
  rw [← ey, ← ec] at hsum ⊢
  have HSUM := Lib.hid hsum
  clear hm hrow hi hL hsum ey ec
  go_enter Try.func78, Try.ntmps78
  go_wp2_with fail
  go_loopw [11] (fun ti wr => ∃ k : Nat, k ≤ L ∧ ti = .int .i64 k ∧ Keeps g w wr ∧ Below w0.heap.size w wr ∧ Rw wr g L (fun i => if i < k then (m.getD i []).getD q 0 else F i)) (fun ti _ => L - (intOf ti).toNat)
  case atStart => exact ⟨0, by omega, rfl, Keeps.refl _ _, Below.refl _ _, HR.out.congr (fun i hi => by simp)⟩
  case round =>
    obtain ⟨k, hk, rfl, hK, hB, hrr⟩ := hrel
    have HK := Lib.hid hK
    have HB := Lib.hid hB
    have HRr := Lib.hid hrr
    have d1 := (hK.cell (p := ⟨ao, 0, none⟩) h3'.1 h3'.2).trans C1.out
    have d2 := (hK.cell (p := ⟨sa, 0, none⟩) h2.1 h2.2).trans C2.out
    clear hK hB hrr
    by_cases hlt : k < L
    · obtain ⟨b, off, u, rfl, hb, hcu, hNu⟩ := mat_cell HM.out (i := k) (by rw [HL.out]; exact hlt)
      have hcu' := (HB.out.cell (p := ⟨b, off + k, none⟩) hb).trans ((HB0.out.cell (p := ⟨b, off + k, none⟩) hb).trans hcu)
      have hrl := HROW.out k hlt
      obtain ⟨Au, capu, rfl⟩ := nums_slice' hNu
      rw [hrl] at hcu' hNu
      obtain ⟨b2, off2, rfl, hb2, hc2⟩ := nums_cell hNu (i := q) (by omega)
      have hx := (HB.out.cell (p := ⟨b2, off2 + q, none⟩) hb2).trans ((HB0.out.cell (p := ⟨b2, off2 + q, none⟩) hb2).trans hc2)
      obtain ⟨x, ex⟩ : ∃ x, x = (m.getD k []).getD q 0 := ⟨_, rfl⟩
      rw [← ex] at hx
      have HX := Lib.hid ex
      obtain ⟨e1, e2⟩ := HRr.out k hlt
      have HS := Lib.hid (HRr.out.set hlt x)
      have HK3 := Lib.hid (HK.out.set k (.int .u64 (x : Nat)))
      have HB3 := Lib.hid (HB.out.setCell (p := ⟨g, k, none⟩) hg0 (.int .u64 (x : Nat)))
      have hkn : (k : Int) < (L : Nat) := by omega
      clear ex hcu hNu hc2 hrl
      go_wp2_with fail
      go_still_tail 8, (by kernel_rfl)
      change wpList _ _ _ _ _ wr.drew
      go_wp2_with fail
      go_roundw
      case rel =>
        refine ⟨k + 1, by omega, by go_num, HK3.out, HB3.out.drew, HS.out.congr (fun i hi => ?_)⟩
        by_cases h : i = k
        · subst h; rw [if_pos rfl, if_pos (by omega)]; exact HX.out
        · rw [if_neg h]
          by_cases h2 : i < k
          · rw [if_pos h2, if_pos (by omega)]
          · rw [if_neg h2, if_neg (by omega)]
      case measure => simp [intOf]; omega
    · obtain rfl : k = L := by omega
      have hrc : Rw wr g k (fun i => (m.getD i []).getD q 0) := HRr.out.congr (fun i hi => by rw [if_pos hi])
      have hN := hrc.nums (by have := HK.out.1; omega) hLl (fun i hi => by
        obtain ⟨b, off, u, _, _, _, hNu⟩ := mat_cell HM.out (i := i) (by rw [HL.out]; exact hi)
        have hql : q < (m.getD i []).length := by rw [HROW.out i hi]; exact hq
        rw [M.getD_lt hql]
        exact hNu.1 _ (List.getElem_mem _))
      have hcol : M.tabM k (fun i => (m.getD i []).getD q 0) = M.colK m q := by unfold M.colK; rw [HL.out]
      rw [hcol] at hN
      have hcl : (M.colK m q).length = k := by rw [M.colK_len, HL.out]
      have HRC := Lib.hid hrc
      have HS := Lib.hid (HSUM.out wr _ hN)
      clear hN hrc hcol hcl
      go_wp2_with fail
      refine HS.out.mono ?_
      rintro e w' ⟨rfl, rfl⟩
      go_wp2_with fail
      go_ret2
      exact ⟨rfl, HK.out, HB.out, _, HRC.out⟩
end Go.Proofs.Ytgoognipljknjaa
namespace Go.Proofs.Ytgoognipljknjaa
open Go.RowKit
set_option linter.unusedVariables false
set_option maxRecDepth 100000

theorem kept1 (w : World) (m : Nat) (hm : m = w.heap.size) (x : Value) (ty : TypeId) : Kept [(⟨m, 0, none⟩, x)] (w.alloc (.cells #[x] ty)) := by
  subst hm
  intro q hq
  simp at hq
  rcases hq with rfl
  simp

set_option maxHeartbeats 1000000 in
theorem scale_no (p c : Nat) (n t : Int) (v : Value) (zs : List Nat) (w : World) (hp : p < 18446744073709551616) (hn1 : -9223372036854775808 ≤ n) (hn2 : n ≤ 9223372036854775807) (ht1 : -9223372036854775808 ≤ t) (ht2 : t ≤ 9223372036854775807) (hc : c < 18446744073709551616) (hv : Nums w v zs)
    (h : M.okS p n t = false ∨ (zs.length : Int) ≠ n) :
    Calls Try.prog 47 #[suV p n t, v, .int .u64 c] w (Fails2 w 2) := by
  have HB := Lib.hid fun o1 o2 o3 => bnext (bnext (balloc w o1) (balloc (w.alloc o1) o2)) (balloc ((w.alloc o1).alloc o2) o3)
  have hl := hv.2.1
  obtain ⟨A, cap, rfl⟩ := nums_slice' hv
  by_cases h2 : (zs.length : Int) = n
  · have HC := Lib.hid fun cv W => forParties_no p n t cv W hp hn1 hn2 ht1 ht2 (h.resolve_right (by simp [h2]))
    have hb : ((zs.length : Int) != n) = false := by simp [h2]
    obtain ⟨L, eL⟩ : ∃ L, zs.length = L := ⟨_, rfl⟩
    rw [eL] at hb hl ⊢
    unfold suV at HC ⊢
    clear hv h h2 eL
    go_enter Try.func47, Try.ntmps47
    go_wp2_with fail
    refine (HC.out _ _).mono ?_
    rintro e w1 ⟨rfl, hb1⟩
    have B1 := Lib.hid (bnext (HB.out _ _ _) hb1)
    clear hb1
    go_wp2_with fail
    go_ret2
    exact ⟨rfl, B1.out⟩
  · have hb : ((zs.length : Int) != n) = true := by simp [h2]
    obtain ⟨L, eL⟩ : ∃ L, zs.length = L := ⟨_, rfl⟩
    rw [eL] at hb hl ⊢
    unfold suV
    clear hv h h2 eL
    go_enter Try.func47, Try.ntmps47
    go_wp2_with fail
    go_ret2
    exact ⟨rfl, HB.out _ _ _⟩

set_option maxHeartbeats 2000000 in
theorem scale_run (p N c : Nat) (t : Int) (v : Value) (zs : List Nat) (w : World) (hok : M.okS p (N : Int) t = true) (hc : c < 18446744073709551616) (hv : Nums w v zs) (hl : zs.length = N) :
    Calls Try.prog 47 #[suV p (N : Int) t, v, .int .u64 c] w fun e w' => Parties p N (M.sclF p zs c) (M.sclE p zs c) w.heap.size w e w' := by
  obtain ⟨hi, hn1, hn2, ht1, ht2, hnp⟩ := M.okS_iff.1 hok
  obtain ⟨h3, hp⟩ := M.pos_of hi
  obtain ⟨A, cap, rfl⟩ := nums_slice' hv
  rw [hl] at hv ⊢
  have hW := bnext (bnext (balloc w (.cells #[.int .u64 p, .int .i64 N, .int .i64 t] 40)) (balloc (w.alloc (.cells #[.int .u64 p, .int .i64 N, .int .i64 t] 40)) (.cells #[.slice A N cap] 24))) (balloc ((w.alloc (.cells #[.int .u64 p, .int .i64 N, .int .i64 t] 40)).alloc (.cells #[.slice A N cap] 24)) (.cells #[.int .u64 c] 22))
  obtain ⟨w3, hw3⟩ : ∃ w3, ((w.alloc (.cells #[.int .u64 p, .int .i64 N, .int .i64 t] 40)).alloc (.cells #[.slice A N cap] 24)).alloc (.cells #[.int .u64 c] 22) = w3 := ⟨_, rfl⟩
  have hK : Kept [(⟨w.heap.size, 0, none⟩, .int .u64 p), (⟨w.heap.size, 1, none⟩, .int .i64 N), (⟨w.heap.size, 2, none⟩, .int .i64 t), (⟨w.heap.size + 1, 0, none⟩, .slice A N cap), (⟨w.heap.size + 1 + 1, 0, none⟩, .int .u64 c)] w3 := by
    rw [← hw3]
    exact (((kept3 w w.heap.size rfl (.int .u64 p) (.int .i64 N) (.int .i64 t) 40).alloc _).alloc _).app (((kept1 (w.alloc _) (w.heap.size + 1) (by simp) (.slice A N cap) 24).alloc _).app (kept1 ((w.alloc _).alloc _) (w.heap.size + 1 + 1) (by simp) (.int .u64 c) 22))
  have hsz : w3.heap.size = w.heap.size + 3 := by rw [← hw3]; simp
  rw [hw3] at hW
  have hfp := forParties_scale p N t ⟨w.heap.size, 0, none⟩ ⟨w.heap.size + 1, 0, none⟩ ⟨w.heap.size + 1 + 1, 0, none⟩ (M.sclF p zs c) (M.sclE p zs c)
    (fun W => Kept [(⟨w.heap.size, 0, none⟩, .int .u64 p), (⟨w.heap.size, 1, none⟩, .int .i64 N), (⟨w.heap.size, 2, none⟩, .int .i64 t), (⟨w.heap.size + 1, 0, none⟩, .slice A N cap), (⟨w.heap.size + 1 + 1, 0, none⟩, .int .u64 c)] W ∧ Below w.heap.size w W ∧ w.heap.size + 3 ≤ W.heap.size) w.heap.size w.heap.size w3 hok (by omega) (by omega)
    ⟨hK, hW, by omega⟩ (fun W W' h hb => ?_) (fun k hk => ?_) (fun W k hk hJ hs => ?_)
  · have HC := Lib.hid hfp
    have HW := Lib.hid hW
    have hNb : ((N : Int) != N) = false := by simp
    obtain ⟨d0, d1, d2, d3, d4⟩ := hK.c5
    unfold suV at HC ⊢
    clear hfp hW hok hi hK hv hsz hl
    go_enter Try.func47, Try.ntmps47
    go_wp2_with fail
    --PEEK
    refine HC.out.mono ?_
    rintro e w1 (⟨v1, rfl, hN, hE, hb⟩ | ⟨k, hk, hE, hj, rfl, hb⟩)
    · have N1 := Lib.hid hN
      have E1 := Lib.hid hE
      have B1 := Lib.hid (HW.out.trans hb)
      clear hN hE hb
      go_wp2_with fail
      go_ret2
      exact .inl ⟨_, rfl, N1.out, E1.out, B1.out⟩
    · have E1 := Lib.hid hE
      have J1 := Lib.hid hj
      have B1 := Lib.hid (HW.out.trans hb)
      obtain ⟨c, ec⟩ : ∃ c', c' = M.sclE p zs c k := ⟨_, rfl⟩
      rw [← ec]
      have EC := Lib.hid ec
      clear hE hj hb ec
      go_wp2_with fail
      go_ret2
      exact .inr ⟨k, hk, E1.out, J1.out, by rw [← EC.out]; rfl, B1.out⟩
  · have hs := hb.size
    have h3 := h.2.2
    refine ⟨fun x hx => ?_, h.2.1.trans (hb.mono (by omega)), by omega⟩
    have hx3 : x.1.block < w3.heap.size := (hK x hx).1
    exact ⟨by omega, (hb.cell hx3).trans (h.1 x hx).2⟩
  · unfold M.sclF; split
    · have := Nat.mod_lt (zs.getD k 0 * c) (show 0 < p by omega); omega
    · omega
  · have hvW : Nums W (.slice A N cap) zs := hv.below hJ.2.1
    refine (scale1_any p k c A N cap zs w.heap.size (w.heap.size + 1) (w.heap.size + 1 + 1) W hi hk (by omega) hl hvW hc hJ.1.c5.1 hJ.1.c5.2.2.2.1 hJ.1.c5.2.2.2.2).mono ?_
    rintro e W' ⟨rfl, hb⟩
    exact ⟨rfl, ⟨hJ.1.below hb, hJ.2.1.trans (hb.mono (by omega)), by have := hb.size; have := hJ.2.2; omega⟩, hb.mono (by omega), Keeps.of_below hb _⟩
end Go.Proofs.Ytgoognipljknjaa
namespace Go.Proofs.Ytgoognipljknjaa
open Go.RowKit
set_option linter.unusedVariables false
set_option maxRecDepth 100000

/-- every list is as long as there are parties, and holds field elements -/
def SumGood (p : Nat) (n t : Int) (m : List (List Nat)) : Prop := M.okS p n t = true ∧ (∀ i, i < m.length → ((m.getD i []).length : Int) = n) ∧ ∀ q : Nat, (q : Int) < n → M.within p (M.colK m q) = true
def SumEnd (w : World) (p : Nat) (n t : Int) (m : List (List Nat)) (e : Ending) (w' : World) : Prop :=
  Below w.heap.size w w' ∧ ((SumGood p n t m ∧ ∃ v, e = .returned (.tuple #[v, .int .i64 0]) ∧ Nums w' v (M.tabM n.toNat fun q => M.sumK (M.colK m q) m.length % p)) ∨ (¬ SumGood p n t m ∧ e = .returned (.tuple #[.slice none 0 0, .int .i64 2])))

set_option maxHeartbeats 4000000 in
theorem sumS_any (p : Nat) (n t : Int) (v : Value) (m : List (List Nat)) (w : World) (hp : p < 18446744073709551616) (hn1 : -9223372036854775808 ≤ n) (hn2 : n ≤ 9223372036854775807) (ht1 : -9223372036854775808 ≤ t) (ht2 : t ≤ 9223372036854775807) (hv : Mat w v m) :
    Calls Try.prog 45 #[suV p n t, v] w (SumEnd w p n t m) := by
  obtain ⟨A, cap, rfl⟩ := mat_view hv
  obtain ⟨L, eL⟩ : ∃ L, m.length = L := ⟨_, rfl⟩
  have hLl := hv.1
  rw [eL] at hv hLl ⊢
  have hB0 := bnext (balloc w (.cells #[.int .u64 p, .int .i64 n, .int .i64 t] 40)) (balloc (w.alloc (.cells #[.int .u64 p, .int .i64 n, .int .i64 t] 40)) (.cells #[.slice A L cap] 23))
  have hK0 := ((kept3 w w.heap.size rfl (.int .u64 p) (.int .i64 n) (.int .i64 t) 40).alloc _).app (kept1 (w.alloc (.cells #[.int .u64 p, .int .i64 n, .int .i64 t] 40)) (w.heap.size + 1) (by simp) (.slice A L cap) 23)
  obtain ⟨w0, hw0⟩ : ∃ w0, (w.alloc (.cells #[.int .u64 p, .int .i64 n, .int .i64 t] 40)).alloc (.cells #[.slice A L cap] 23) = w0 := ⟨_, rfl⟩
  have hs0 : w0.heap.size = w.heap.size + 2 := by rw [← hw0]; simp
  rw [hw0] at hB0 hK0
  have B0 := Lib.hid hB0
  have K0 := Lib.hid hK0
  have HM := Lib.hid hv
  have HL := Lib.hid eL
  obtain ⟨i0, hi0, hz0, hz1, hz2⟩ := info_parts infoU64
  obtain ⟨d0, d1, d2, d3⟩ := hK0.c4
  unfold suV
  have HS0 := Lib.hid hs0
  clear hv eL hB0 hK0 hs0
  go_enter Try.func45, Try.ntmps45
  go_wp2_with fail
  clear hw0
  go_loop [11] (fun ti => ∃ k : Nat, k ≤ L ∧ ti = .int .i64 k ∧ ∀ i, i < k → ((m.getD i []).length : Int) = n) (fun ti => L - (intOf ti).toNat)
  case atStart => exact ⟨0, by omega, rfl, fun i hi => absurd hi (by omega)⟩
  case round =>
    obtain ⟨k, hk, rfl, hall⟩ := hrel
    have HA := Lib.hid hall
    clear hall
    by_cases hlt : k < L
    · obtain ⟨b, off, u, rfl, hb, hcu, hNu⟩ := mat_cell HM.out (i := k) (by rw [HL.out]; exact hlt)
      have hc := (B0.out.cell (p := ⟨b, off + k, none⟩) hb).trans hcu
      obtain ⟨Au, capu, rfl⟩ := nums_slice' hNu
      have hul := hNu.2.1
      obtain ⟨lu, elu⟩ : ∃ lu, lu = (m.getD k []).length := ⟨_, rfl⟩
      rw [← elu] at hc hul
      have HLU := Lib.hid elu
      have hkn : (k : Int) < (L : Nat) := by omega
      clear hcu hNu elu
      by_cases hln : (lu : Int) = n
      · have hb1 : ((lu : Int) != n) = false := by simp [hln]
        have HLN := Lib.hid hln
        clear hln
        go_wp2_with fail
        go_round
        case rel =>
          refine ⟨k + 1, by omega, by go_num, fun i hi => ?_⟩
          by_cases h : i = k
          · subst h; rw [← HLU.out]; exact HLN.out
          · exact HA.out i (by omega)
        case measure => simp [intOf]; omega
      · have hb1 : ((lu : Int) != n) = true := by simp [hln]
        have HLN := Lib.hid hln
        clear hln
        go_wp2_with fail
        go_ret2
        exact ⟨B0.out, .inr ⟨fun h => HLN.out (by rw [HLU.out]; exact h.2.1 k (by rw [HL.out]; exact hlt)), rfl⟩⟩
    · obtain rfl : k = L := by omega
      go_wp2_with (refine wpList_make_full _ rfl _ _ 24 rfl w0.heap.size 22 i0 (.int .u64 0) 1 Try.underlying24 hi0 hz0 hz1 .i64 .i64 _ _ k rfl rfl rfl rfl ?c1 ?c2 ?c3 ?_)
      case c1 => first | omega | (rw [hz2]; omega)
      try (case c2 => unfold maxLen; omega)
      try (case c3 => exact Nat.le_refl _)
      intro w2 hown hgrow
      rw [toList_madeCells_one] at hown
      have S2 := Lib.hid ((Below.refl w0.heap.size w0).grown hgrow (Nat.le_refl _) (by simp))
      have HR2 := Lib.hid (Rw.start hown rfl)
      have L2 := (own_lt hown).2
      have B2 := Lib.hid (bnext B0.out S2.out)
      have K2 := Lib.hid (K0.out.below S2.out)
      obtain ⟨g, eg⟩ : ∃ g, w0.heap.size = g := ⟨_, rfl⟩
      rw [eg] at HR2 L2 HS0 ⊢
      clear hown hgrow eg d0 d1 d2 d3 S2
      obtain ⟨d0, d1, d2, d3⟩ := K2.out.c4
      have hK3 := (K2.out.alloc (.cells #[.slice (some ⟨g, 0, none⟩) k k] 24)).app (kept1 w2 w2.heap.size rfl (.slice (some ⟨g, 0, none⟩) k k) 24)
      have hB3 := bnext B2.out (balloc w2 (.cells #[.slice (some ⟨g, 0, none⟩) k k] 24))
      have hR3 := HR2.out.below (balloc w2 (.cells #[.slice (some ⟨g, 0, none⟩) k k] 24)) L2
      obtain ⟨w3, hw3⟩ : ∃ w3, w2.alloc (.cells #[.slice (some ⟨g, 0, none⟩) k k] 24) = w3 := ⟨_, rfl⟩
      have hs3 : w3.heap.size = w2.heap.size + 1 := by rw [← hw3]; simp
      rw [hw3] at hK3 hB3 hR3
      obtain ⟨f0, f1, f2, f3, f4⟩ := Kept.c5 hK3
      have B3 := Lib.hid hB3
      have hb3s := hB3.size
      cases hok : M.okS p n t with
      | false =>
        have HC := Lib.hid fun cv W => forParties_no p n t cv W hp hn1 hn2 ht1 ht2 hok
        have HNG : Hid (¬ SumGood p n t m) := Lib.hid fun h => by rw [h.1] at hok; cases hok
        unfold suV at HC
        clear hK3 hB3 hR3 hok hs3 hb3s
        go_wp2_with fail
        clear hw3
        refine (HC.out _ _).mono ?_
        rintro e w4 ⟨rfl, hb4⟩
        have B4 := Lib.hid (bnext B3.out hb4)
        clear hb4
        go_wp2_with fail
        go_ret2
        exact ⟨B4.out, .inr ⟨HNG.out, rfl⟩⟩
      | true =>
        obtain ⟨N, T, rfl, rfl, hi, hN1, hN13, hT4, hNp⟩ := M.okS_nat hok
        have hrow : ∀ i, i < k → (m.getD i []).length = N := fun i hi => by have := HA.out i hi; omega
        have hfp := forParties_sum p N T ⟨w.heap.size + 1, 0, none⟩ ⟨w2.heap.size, 0, none⟩ ⟨w.heap.size, 0, none⟩ (M.sumF p m) (M.sumE p m)
          (fun W => Kept [(⟨w.heap.size, 0, none⟩, .int .u64 p), (⟨w.heap.size, 1, none⟩, .int .i64 N), (⟨w.heap.size, 2, none⟩, .int .i64 T), (⟨w.heap.size + 1, 0, none⟩, .slice A k cap), (⟨w2.heap.size, 0, none⟩, .slice (some ⟨g, 0, none⟩) k k)] W ∧ Below w.heap.size w W ∧ w3.heap.size ≤ W.heap.size ∧ ∃ F, Rw W g k F) w.heap.size g w3 hok (by omega) (by omega)
          ⟨hK3, hB3, Nat.le_refl _, _, hR3⟩ (fun W W' h hb => ?_) (fun q hq => ?_) (fun W q hq hJ hs => ?_)
        · have HC := Lib.hid hfp
          have HOK := Lib.hid hok
          have HRW := Lib.hid hrow
          unfold suV at HC
          clear hK3 hB3 hR3 hok hs3 hfp hrow hi hb3s
          go_wp2_with fail
          clear hw3
          refine HC.out.mono ?_
          rintro e w4 (⟨v1, rfl, hN, hE, hb⟩ | ⟨q, hq, hE, hj, rfl, hb⟩)
          · have N1 := Lib.hid hN
            have E1 := Lib.hid hE
            have B4 := Lib.hid (B3.out.trans hb)
            clear hN hE hb
            go_wp2_with fail
            go_ret2
            have hcol : ∀ q, q < N → M.within p (M.colK m q) = true := fun q hq => by
              have := E1.out q hq
              unfold M.sumE at this
              by_cases h : M.within p (M.colK m q) = true
              · exact h
              · rw [if_neg h] at this; cases this
            refine ⟨B4.out, .inl ⟨⟨HOK.out, fun i hi => by rw [HRW.out i (by rw [← HL.out]; exact hi)], fun q hq => hcol q (by omega)⟩, _, rfl, ?_⟩⟩
            have := N1.out
            rw [tab_congr (G := fun q => M.sumK (M.colK m q) m.length % p) (fun q hq => by unfold M.sumF; rw [if_pos (hcol q hq)])] at this
            exact this
          · have E1 := Lib.hid hE
            have B4 := Lib.hid (B3.out.trans hb)
            have e2 : M.sumE p m q = 2 := by
              unfold M.sumE at hE ⊢
              split
              · rename_i h; rw [if_pos h] at hE; exact absurd rfl hE
              · rfl
            have HNG : Hid (¬ SumGood p (N : Int) (T : Int) m) := Lib.hid fun h => by
              have := h.2.2 q (by omega)
              unfold M.sumE at hE
              rw [if_pos this] at hE
              exact hE rfl
            rw [e2]
            clear hE hj hb e2
            go_wp2_with fail
            go_ret2
            exact ⟨B4.out, .inr ⟨HNG.out, rfl⟩⟩
        · have hs := hb.size
          have HS := HS0.out
          obtain ⟨hJ1, hJ2, hJ3, F, hJ4⟩ := h
          refine ⟨fun x hx => ?_, hJ2.trans (hb.mono (by omega)), by omega, F, hJ4.below hb (by omega)⟩
          have hx3 : x.1.block < w3.heap.size := (hK3 x hx).1
          exact ⟨by omega, (hb.cell hx3).trans (hJ1 x hx).2⟩
        · unfold M.sumF; split
          · have := Nat.mod_lt (M.sumK (M.colK m q) m.length) (show 0 < p by omega); have := M.pos_of hi; omega
          · omega
        · have HS := HS0.out
          obtain ⟨hJ1, hJ2, hJ3, F, hJ4⟩ := hJ
          refine (sum1_any p q N k (w.heap.size + 1) w.heap.size w2.heap.size g A cap m F w W hi hq hN13 HL.out HM.out hrow hJ2 (by omega) (by omega) hJ4 ⟨by omega, by omega⟩ ⟨by omega, by omega⟩ ⟨by omega, by omega⟩ hJ1.c5.2.2.2.1 hJ1.c5.2.2.2.2 hJ1.c5.1).mono ?_
          rintro e W' ⟨rfl, hk, hb, F', hr'⟩
          refine ⟨rfl, ⟨fun x hx => ?_, hJ2.trans hb, by have := hk.1; omega, F', hr'⟩, hb, hk⟩
          have hx3 := (hJ1 x hx).1
          have hxg : x.1.block ≠ g := by
            simp only [List.mem_cons, List.not_mem_nil, or_false] at hx
            rcases hx with rfl | rfl | rfl | rfl | rfl <;> (dsimp only; omega)
          exact ⟨by have := hk.1; omega, (hk.cell hx3 hxg).trans (hJ1 x hx).2⟩
end Go.Proofs.Ytgoognipljknjaa
