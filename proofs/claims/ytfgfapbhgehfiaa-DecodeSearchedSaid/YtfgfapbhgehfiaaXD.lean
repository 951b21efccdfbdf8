/-
  Mr6, Mr7, Dot3, Mr8 (joined).
-/
import Derived.Test.YtfgfapbhgehfiaaXA
import Derived.Test.YtfgfapbhgehfiaaXB
import Derived.Test.YtfgfapbhgehfiaaXC
import Derived.Lib.AppendZerosOnto
import Derived.Outline
import Derived.Deep.OwnRows
import Derived.Deep.QuietTactic
import Derived.BigQuiet
namespace Go.Proofs.Ytfgfapbhgehfiaa
open Go.RowKit
set_option linter.unusedVariables false
set_option maxRecDepth 100000

/-- a call hands back a new row of n numbers -/
def GivesRow (w : World) (n : Nat) (F : Nat → Nat) (e : Ending) (w' : World) : Prop :=
  ∃ g cap, e = .returned (.slice (some ⟨g, 0, none⟩) n cap) ∧ w.heap.size ≤ g ∧ n ≤ cap ∧ Row w' g n F ∧ Below w.heap.size w w'

set_option maxHeartbeats 1000000 in
theorem grow_nil (n : Nat) (w : World) (h0 : 0 < n) (hn : n ≤ 2000) :
    Calls Try.prog 96 #[.slice none 0 0, .int .i64 n] w fun e w' => ∃ v, e = .returned v ∧ w'.ownsRow w.heap.size 22 1 v 0 [] ∧ Below w.heap.size w w' := by
  obtain ⟨i0, hi0, hz0, hz1, hz2⟩ := info_parts infoU64
  have hrz : ∀ ty, (Builtin.append_ #[31, 3] ty #[.slice none 0 0, .int .i64 (n : Nat)]).run Try.prog w =
      .ok (.slice (some ⟨w.heap.size, 0, none⟩) n (grownCap w n 0 22)) (w.drew.alloc (.cells (#[] ++ Builtin.zeroCells (Value.int .u64 0).cells n ++ Builtin.zeroCells (Value.int .u64 0).cells (grownCap w n 0 22 - n)) 22)) := fun ty => by
    have h := Lib.run_append_grow_zeros (P := Try.prog) w 31 3 ty 22 i0 (.int .u64 0) .i64 .i64 Try.underlying31 Try.underlying3 hi0 hz0 none 0 0 [] (run_firstCells_none w.drew i0.size 0 0 0) n h0 (by omega) (by omega) (by omega) (by rw [hz2]; omega)
      (by rw [hz2]; unfold Builtin.nextslicecap; rw [if_pos (by omega)]; omega)
    simpa using h
  have hge := grownCap_ge w n 0 22
  have hle := grownCap_le_maxLen w n 0 22 (by unfold maxLen; omega)
  obtain ⟨c, ec⟩ : ∃ c, c = grownCap w n 0 22 := ⟨_, rfl⟩
  rw [← ec] at hrz hge hle
  obtain ⟨cs, ecs⟩ : ∃ cs, cs = (#[] ++ Builtin.zeroCells (Value.int .u64 0).cells n ++ Builtin.zeroCells (Value.int .u64 0).cells (c - n)) := ⟨_, rfl⟩
  have hsz : cs.size = c * 1 := by rw [ecs]; simp [size_zeroCells, Value.cells]; omega
  rw [← ecs] at hrz
  have HSZ := Lib.hid hsz
  have HLE := Lib.hid hle
  have hle2 : c ≤ 9223372036854775807 := by unfold maxLen at hle; omega
  clear ec ecs hsz hle
  go_enter Try.func96, Try.ntmps96
  go_wp2_with (at_builtin; refine Lib.wpList_append_run _ rfl _ _ _ _ rfl _ _ rfl rfl _ _ (hrz _) ?_)
  all_goals
    go_ret
    refine ⟨_, rfl, ?_, (Below.refl _ _).drew.alloc (Nat.le_refl _) _⟩
    exact World.ownsRow_made w.drew cs c (Nat.le_refl _) HLE.out HSZ.out

/-- the first k of two numbers' sum; the first k of two lists, one behind the other -/
def two (a b : Nat) : Nat → Nat
  | 0 => 0
  | 1 => a
  | _ => a + b
def twoL (zs ys : List Nat) : Nat → List Nat
  | 0 => []
  | 1 => zs
  | _ => zs ++ ys
theorem twoL_len (zs ys : List Nat) (k : Nat) : (twoL zs ys k).length = two zs.length ys.length k := by
  match k with
  | 0 => rfl
  | 1 => rfl
  | k + 2 => simp [twoL, two]
theorem two_le (a b k : Nat) : two a b k ≤ a + b := by
  match k with
  | 0 => simp [two]
  | 1 => simp [two]
  | k + 2 => simp [two]

set_option maxHeartbeats 2000000 in
theorem concat_any (b : Nat) (v1 v2 : Value) (zs ys : List Nat) (w : World) (hz0 : 0 < zs.length) (hl : zs.length + ys.length ≤ 2000) (h1 : Nums w v1 zs) (h2 : Nums w v2 ys)
    (hc : w.heap[b]? = some (.cells #[v1, v2] 31 (0, 0))) :
    Calls Try.prog 90 #[.slice (some ⟨b, 0, none⟩) 2 2] w (GivesRow w (zs.length + ys.length) fun j => (zs ++ ys).getD j 0) := by
  have c1 : w.cell? ⟨b, 0, none⟩ = some v1 := by rw [cell_of_row w b 0 _ _ (0, 0) hc]; rfl
  have c2 : w.cell? ⟨b, 1, none⟩ = some v2 := by rw [cell_of_row w b 1 _ _ (0, 0) hc]; rfl
  have HB := Lib.hid (lt_of_block hc)
  have H1 := Lib.hid h1
  have H2 := Lib.hid h2
  obtain ⟨a1, p1, rfl⟩ := nums_slice' h1
  obtain ⟨a2, p2, rfl⟩ := nums_slice' h2
  clear h1 h2 hc
  have C1 := Lib.hid c1
  have C2 := Lib.hid c2
  go_enter Try.func90, Try.ntmps90
  go_wp2_with fail
  go_loop [11, 3] (fun ti ts => ∃ k : Nat, k ≤ 2 ∧ ti = .int .i64 k ∧ ts = .int .i64 (two zs.length ys.length k)) (fun ti _ => 2 - (intOf ti).toNat)
  case atStart => exact ⟨0, by omega, rfl, rfl⟩
  case round =>
    obtain ⟨k, hk, rfl, rfl⟩ := hrel
    have ht := two_le zs.length ys.length k
    match k, hk with
    | 0, _ =>
      clear ht
      simp only [two]
      go_wp2_with fail
      go_round
      case rel => exact ⟨1, by omega, by go_num, by simp⟩
      case measure => simp [intOf]
    | 1, _ =>
      clear ht
      simp only [two]
      go_wp2_with fail
      go_round
      case rel => exact ⟨2, by omega, by go_num, by simp⟩
      case measure => simp [intOf]
    | 2, _ =>
      clear ht
      simp only [two]
      have hgr := Lib.hid (grow_nil (zs.length + ys.length) w (by omega) (by omega))
      have ecast : ((zs.length + ys.length : Nat) : Int) = (zs.length : Int) + ys.length := by omega
      rw [ecast] at hgr ⊢
      clear ecast
      go_wp2_with fail
      refine hgr.out.mono ?_
      rintro e w1 ⟨v, rfl, hown, hb⟩
      have HO := Lib.hid hown
      have HW := Lib.hid hb
      clear hown hb hgr
      go_wp2_with fail
      go_loopw [27, 6] (fun ti tv wr => ∃ k : Nat, k ≤ 2 ∧ ti = .int .i64 k ∧ wr.ownsRow w.heap.size 22 1 tv (twoL zs ys k).length (vals (twoL zs ys k)) ∧ Below w.heap.size w wr) (fun ti _ _ => 2 - (intOf ti).toNat)
      case atStart => exact ⟨0, by omega, rfl, HO.out, HW.out⟩
      case round =>
        obtain ⟨k, hk, rfl, hown, hB⟩ := hrel
        have HO2 := Lib.hid hown
        have HW2 := Lib.hid hB
        have d1 := (hB.cell (p := ⟨b, 0, none⟩) HB.out).trans C1.out
        have d2 := (hB.cell (p := ⟨b, 1, none⟩) HB.out).trans C2.out
        clear hown hB c1 c2 HO HW
        match k, hk with
        | 0, _ =>
          go_wp2_with (at_builtin; refine wpList_append_nums (by rfl) _ _ (by rfl) w.heap.size _ _ _ (by rfl) HO2.out _ zs (by rfl) (H1.out.below HW2.out) (by simp [twoL]; omega) (by have := HW2.out.size; omega) ?_)
          intro v' w' hown' hb'
          have HO3 := Lib.hid hown'
          have HW3 := Lib.hid (HW2.out.trans hb')
          clear hown' hb'
          go_wp2_with fail
          go_roundw
          case rel => exact ⟨1, by omega, by go_num, by simpa [twoL, vals] using HO3.out, HW3.out⟩
          case measure => simp [intOf]
        | 1, _ =>
          go_wp2_with (at_builtin; refine wpList_append_nums (by rfl) _ _ (by rfl) w.heap.size _ _ _ (by rfl) HO2.out _ ys (by rfl) (H2.out.below HW2.out) (by simp [twoL]; omega) (by have := HW2.out.size; omega) ?_)
          intro v' w' hown' hb'
          have HO3 := Lib.hid hown'
          have HW3 := Lib.hid (HW2.out.trans hb')
          clear hown' hb'
          go_wp2_with fail
          go_roundw
          case rel => exact ⟨2, by omega, by go_num, by simpa [twoL, vals] using HO3.out, HW3.out⟩
          case measure => simp [intOf]
        | 2, _ =>
          go_wp2_with fail
          go_ret
          have ho := HO2.out
          obtain ⟨g, cap, hv, hg, hlt⟩ := ho.form (by simp [twoL]; omega)
          rw [hv] at ho
          have hr := row_of_owns (zs := zs ++ ys) ho
          refine ⟨g, cap, ?_, hg, ?_, ?_, HW2.out⟩
          · rw [hv]; simp [twoL]
          · have := hr.2.1; simp [twoL] at this; omega
          · have := hr.2.2.2; simpa [twoL] using this
end Go.Proofs.Ytfgfapbhgehfiaa
namespace Go.Proofs.Ytfgfapbhgehfiaa
open Go.RowKit
set_option linter.unusedVariables false
set_option maxRecDepth 100000

/-- make([]uint64, n): what it runs to, and that it is a row of zeros -/
theorem make_u64 (n : Nat) (hn : n ≤ 100000) : ∃ cs : Array Value, (∀ W : World, (Instr.makeSlice 31 (.int .i64 ((n : Nat) : Int)) (.int .i64 ((n : Nat) : Int))).run Try.prog W = .ok (.slice (some ⟨W.heap.size, 0, none⟩) n n) (W.alloc (.cells cs 22))) ∧
    ∀ W : World, Row (W.alloc (.cells cs 22)) W.heap.size n (fun _ => 0) := by
  obtain ⟨i0, hi0, hz0, hz1, hz2⟩ := info_parts infoU64
  refine ⟨madeCells #[Value.int .u64 0] n, fun W => run_make_row (P := Try.prog) 31 22 i0 (.int .u64 0) Try.underlying31 hi0 hz0 hz1 rfl .i64 .i64 n (by rw [hz2]; omega) (by omega) W, fun W => ⟨_, heap_alloc_new W _, fun j hj => ?_⟩⟩
  have h := toList_madeCells_one (Value.int .u64 0) n
  rw [← Array.getElem?_toList, h]
  simp [hj]

set_option maxHeartbeats 400000 in
theorem oneOf_any (i b : Nat) (v : Value) (zs : List Nat) (w : World) (hl : zs.length ≤ 1000) (hi : i < zs.length) (hv : Nums w v zs) (hb : w.cell? ⟨b, 0, none⟩ = some v) :
    Calls Try.prog 78 #[.int .i64 i, .pointer (some ⟨b, 0, none⟩)] w (Gives w [zs.getD i 0]) := by
  obtain ⟨h1, h2, h3⟩ := hv
  rcases h3 with ⟨a, cap, rfl, rfl, _⟩ | ⟨bb, off, cap, rfl, hc, hlt, hcell⟩
  · simp at hi
  have hx := h1 (zs.getD i 0) (by rw [List.getD_eq_getElem?_getD, List.getElem?_eq_getElem hi]; simp)
  have hce := hcell i hi
  have HR := Lib.hid (show Nums w (.slice (some ⟨bb, off + i, none⟩) 1 (cap - i)) [zs.getD i 0] from ⟨by simpa using hx, by simp, .inr ⟨bb, off + i, cap - i, rfl, by simp; omega, hlt, fun j hj => by
    obtain rfl : j = 0 := by simpa using hj
    simpa using hce⟩⟩)
  have n1 : ¬ cap = i := by omega
  clear hcell hce h1
  go_enter Try.func78, Try.ntmps78
  go_wp2_with fail
  go_ret
  refine ⟨_, rfl, ?_, Below.refl _ _⟩
  have e : i + 1 - i = 1 := by omega
  first | exact HR.out | (rw [e]; exact HR.out) | (simp only [e]; exact HR.out)
end Go.Proofs.Ytfgfapbhgehfiaa
namespace Go.Proofs.Ytfgfapbhgehfiaa
open Go.RowKit
set_option linter.unusedVariables false
set_option maxRecDepth 100000

namespace M


def dotK (l m : List Nat) : Nat → Nat
  | 0 => 0
  | k + 1 => dotK l m k + l.getD k 0 * m.getD k 0

theorem dotK_le {p : Nat} {l m : List Nat} (hp : p ≤ 65537) (h : within p l = true) (h2 : within p m = true) (he : l.length = m.length) : ∀ k, k ≤ l.length → dotK l m k ≤ k * 4294967296
  | 0, _ => by simp [dotK]
  | k + 1, hk => by
    have ih := dotK_le hp h h2 he k (by omega)
    have a1 := within_mem h (show k < l.length by omega)
    have a2 := within_mem h2 (show k < m.length by omega)
    have : l.getD k 0 * m.getD k 0 ≤ 65536 * 65536 := Nat.mul_le_mul (by omega) (by omega)
    simp only [dotK]; omega

end M

theorem nums_slice {w : World} {v : Value} {zs : List Nat} (h : Nums w v zs) : ∃ a cap, v = .slice a zs.length cap := by
  rcases h.2.2 with ⟨a, cap, rfl, rfl, _⟩ | ⟨b, off, cap, rfl, _⟩
  · exact ⟨_, _, rfl⟩
  · exact ⟨_, _, rfl⟩

end Go.Proofs.Ytfgfapbhgehfiaa
namespace Go.Proofs.Ytfgfapbhgehfiaa
open Go.RowKit
set_option linter.unusedVariables false
set_option maxRecDepth 100000

theorem pivot_any (p base D B R C cap col : Nat) (G Cp : Nat → Nat) (vp : Value) (s : M.Rd) (m0 : M.Mx) (w : World) (hi : M.isP p = true) (hR : R ≤ 1000) (hC : C ≤ 1000) (hcol : col < C) (hb : base ≤ w.heap.size)
    (h : RedO w base D B R C cap G Cp vp s) (hv : M.Inv p R C m0 col s) :
    Calls Try.prog 91 #[.pointer (some ⟨D, 0, none⟩), .int .u64 p, .int .i64 col] w (RedEnd w base D B R C cap (M.rstep p R s col)) := by
  obtain ⟨h3, hp⟩ := M.pos_of hi
  by_cases hr : s.at_ R col < R
  · obtain ⟨f1, _, _, _⟩ := s.at_first hv.len col
    by_cases e : s.at_ R col = s.lead.length
    · exact pivot_same p base D B R C cap col _ G Cp vp s w hi hR hC hcol hb hv.lt ⟨hv.dpos, hv.dlt⟩ hv.zero h (by omega) rfl hr e
    · exact pivot_swap p base D B R C cap col _ G Cp vp s w hi hR hC hcol hb hv.lt ⟨hv.dpos, hv.dlt⟩ hv.zero h (by omega) rfl hr (by omega)
  · rw [M.rstep_none hr]
    exact pivot_none p base D B R C cap col G Cp vp s w hp hR hC hcol hb hv.len h hr

namespace M
/-- the matrix m with further columns -/
def besF (m : List (List Nat)) (ap : Nat → List Nat) : Mx := fun i j => (m.getD i [] ++ ap i).getD j 0
theorem getD_app (l m : List Nat) (j : Nat) : (l ++ m).getD j 0 = if j < l.length then l.getD j 0 else m.getD (j - l.length) 0 := by
  simp only [List.getD_eq_getElem?_getD, List.getElem?_append]
  split <;> rfl
/-- R rows of K numbers below p -/
structure Ok (p : Nat) (m : List (List Nat)) (R K : Nat) : Prop where
  isp : isP p = true
  rows : m.length = R
  R1 : 1 ≤ R
  R64 : R ≤ 64
  K1 : 1 ≤ K
  K64 : K ≤ 64
  cols : ∀ i, i < R → (m.getD i []).length = K
  lt : ∀ i, i < R → within p (m.getD i []) = true
theorem Ok.el_lt {p : Nat} {m : List (List Nat)} {R K : Nat} (h : Ok p m R K) {i j : Nat} (hi : i < R) (hj : j < K) : el m i j < p := within_mem (h.lt i hi) (by rw [h.cols i hi]; exact hj)
theorem besF_lt {p : Nat} {m : List (List Nat)} {R K E : Nat} {ap : Nat → List Nat} (h : Ok p m R K) (ha : ∀ i, i < R → (ap i).length = E ∧ within p (ap i) = true) : ∀ i, i < R → ∀ j, j < K + E → besF m ap i j < p := fun i hi j hj => by
  unfold besF
  rw [getD_app, h.cols i hi]
  split
  · exact h.el_lt hi (by assumption)
  · exact within_mem (ha i hi).2 (by rw [(ha i hi).1]; omega)
end M

/-- what a reduction answers -/
def ReduceEnd (w : World) (p R K C : Nat) (F : M.Mx) (e : Ending) (w' : World) : Prop :=
  ∃ B cap G Cp vp, e = .returned (.agg #[.slice (some ⟨B, 0, none⟩) R cap, vp, .int .u64 ((M.red p R F K).d : Nat)]) ∧ Below w.heap.size w w' ∧ R ≤ cap ∧
    MatO w' w.heap.size B R C G Cp (M.red p R F K).m ∧ w'.ownsRow w.heap.size 3 1 vp (M.red p R F K).lead.length (ints (M.red p R F K).lead)

/-- one more row is laid -/
theorem MatO.push {w : World} {base B k C R : Nat} {G Cp : Nat → Nat} {F : M.Mx} (h : MatO w base B k C G Cp F) (hs : ∃ cs, w.heap[B]? = some (.cells cs 31 (0, 0)) ∧ cs.size = R) (hk : k < R)
    {g c : Nat} (hg : base ≤ g) (hc : C ≤ c) (hrow : Row w g C (F k)) (hne : ∀ i, i < k → G i ≠ g) :
    MatO (w.setCell ⟨B, k, none⟩ (.slice (some ⟨g, 0, none⟩) C c)) base B (k + 1) C (fun i => if i = k then g else G i) (fun i => if i = k then c else Cp i) F ∧
    ∃ cs, (w.setCell ⟨B, k, none⟩ (.slice (some ⟨g, 0, none⟩) C c)).heap[B]? = some (.cells cs 31 (0, 0)) ∧ cs.size = R := by
  obtain ⟨cs, h1, h2⟩ := h.top
  obtain ⟨ds, h3, h4⟩ := hs
  rw [h1] at h3
  simp only [Option.some.injEq, Obj.cells.injEq, and_true] at h3
  subst h3
  have hgB : g ≠ B := by
    obtain ⟨ds, h5, _⟩ := hrow
    intro e
    rw [e, h1] at h5
    simp at h5
  have hset := heap_setCell_same w B k cs _ (.slice (some ⟨g, 0, none⟩) C c) h1
  refine ⟨⟨h.baseB, ⟨_, hset, fun i hi => ?_⟩, fun i hi => ?_, fun i hi => ?_, fun i j hi hj e => ?_⟩, ⟨_, hset, by simpa using h4⟩⟩
  · by_cases e : i = k
    · subst e; rw [Array.getElem?_setIfInBounds_self_of_lt (by omega)]; simp
    · rw [Array.getElem?_setIfInBounds_ne (Ne.symm e), h2 i (by omega)]; simp [e]
  · by_cases e : i = k
    · subst e; simp only [if_true]; exact hrow.same (Below.heap_setCell _ _ _ _ hgB)
    · simp only [if_neg e]; exact (h.row i (by omega)).same (Below.heap_setCell _ _ _ _ (h.ne (by omega)))
  · by_cases e : i = k
    · simp only [if_pos e]; exact ⟨hg, hc⟩
    · simp only [if_neg e]; exact h.baseG i (by omega)
  · by_cases e1 : i = k <;> by_cases e2 : j = k
    · omega
    · simp only [if_pos e1, if_neg e2] at e; exact absurd e.symm (hne j (by omega))
    · simp only [if_neg e1, if_pos e2] at e; exact absurd e (hne i (by omega))
    · simp only [if_neg e1, if_neg e2] at e; exact h.inj i j (by omega) (by omega) e

theorem infoRow : (Try.prog.info? 31).map (fun i => (i.zero, i.size, i.bytes)) = some (some (.slice none 0 0), 1, 24) := by kernel_rfl
/-- make([][]uint64, n) -/
theorem make_rows (n : Nat) (hn : n ≤ 100000) : ∃ cs : Array Value, cs.size = n ∧ (∀ i, i < n → cs[i]? = some (.slice none 0 0)) ∧ ∀ W : World, (Instr.makeSlice 68 (.int .i64 ((n : Nat) : Int)) (.int .i64 ((n : Nat) : Int))).run Try.prog W = .ok (.slice (some ⟨W.heap.size, 0, none⟩) n n) (W.alloc (.cells cs 31)) := by
  obtain ⟨i0, hi0, hz0, hz1, hz2⟩ := info_parts infoRow
  have h := toList_madeCells_one (Value.slice none 0 0) n
  refine ⟨madeCells #[Value.slice none 0 0] n, ?_, fun i hi => ?_, fun W => run_make_row (P := Try.prog) 68 31 i0 (.slice none 0 0) Try.underlying68 hi0 hz0 hz1 rfl .i64 .i64 n (by rw [hz2]; omega) (by omega) W⟩
  · have := congrArg List.length h; simpa using this
  · rw [← Array.getElem?_toList, h]; simp [hi]
end Go.Proofs.Ytfgfapbhgehfiaa
