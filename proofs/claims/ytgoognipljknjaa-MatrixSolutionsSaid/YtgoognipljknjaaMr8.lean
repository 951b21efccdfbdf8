/-
  Package matrix, reduce: the words for it.
-/
import Derived.Test.YtgoognipljknjaaMr4
import Derived.Test.YtgoognipljknjaaMr5
import Derived.Test.YtgoognipljknjaaMr7
import Derived.Test.YtgoognipljknjaaDot3
namespace Go.Proofs.Ytgoognipljknjaa
open Go.RowKit
set_option linter.unusedVariables false
set_option maxRecDepth 100000

theorem pivot_any (p base D B R C cap col : Nat) (G Cp : Nat → Nat) (vp : Value) (s : M.Rd) (m0 : M.Mx) (w : World) (hi : M.isP p = true) (hR : R ≤ 1000) (hC : C ≤ 1000) (hcol : col < C) (hb : base ≤ w.heap.size)
    (h : RedO w base D B R C cap G Cp vp s) (hv : M.Inv p R C m0 col s) :
    Calls Try.prog 101 #[.pointer (some ⟨D, 0, none⟩), .int .u64 p, .int .i64 col] w (RedEnd w base D B R C cap (M.rstep p R s col)) := by
  obtain ⟨h3, hp⟩ := M.pos_of hi
  by_cases hr : s.at_ R col < R
  · obtain ⟨f1, _, _, _⟩ := s.at_first hv.len col
    by_cases e : s.at_ R col = s.lead.length
    · exact pivot_same p base D B R C cap col _ G Cp vp s w hi hR hC hcol hb hv.lt ⟨hv.dpos, hv.dlt⟩ hv.zero h (by omega) rfl hr e
    · exact pivot_swap p base D B R C cap col _ G Cp vp s w hi hR hC hcol hb hv.lt ⟨hv.dpos, hv.dlt⟩ hv.zero h (by omega) rfl hr (by omega)
  · rw [M.rstep_none hr]
    exact pivot_none p base D B R C cap col G Cp vp s w hp hR hC hcol hb hv.len h hr

namespace M
/-- the matrix m with further columns -/
def besF (m : List (List Nat)) (ap : Nat → List Nat) : Mx := fun i j => (m.getD i [] ++ ap i).getD j 0
theorem getD_app (l m : List Nat) (j : Nat) : (l ++ m).getD j 0 = if j < l.length then l.getD j 0 else m.getD (j - l.length) 0 := by
  simp only [List.getD_eq_getElem?_getD, List.getElem?_append]
  split <;> rfl
/-- R rows of K numbers below p -/
structure Ok (p : Nat) (m : List (List Nat)) (R K : Nat) : Prop where
  isp : isP p = true
  rows : m.length = R
  R1 : 1 ≤ R
  R64 : R ≤ 64
  K1 : 1 ≤ K
  K64 : K ≤ 64
  cols : ∀ i, i < R → (m.getD i []).length = K
  lt : ∀ i, i < R → within p (m.getD i []) = true
theorem Ok.el_lt {p : Nat} {m : List (List Nat)} {R K : Nat} (h : Ok p m R K) {i j : Nat} (hi : i < R) (hj : j < K) : el m i j < p := within_mem (h.lt i hi) (by rw [h.cols i hi]; exact hj)
theorem besF_lt {p : Nat} {m : List (List Nat)} {R K E : Nat} {ap : Nat → List Nat} (h : Ok p m R K) (ha : ∀ i, i < R → (ap i).length = E ∧ within p (ap i) = true) : ∀ i, i < R → ∀ j, j < K + E → besF m ap i j < p := fun i hi j hj => by
  unfold besF
  rw [getD_app, h.cols i hi]
  split
  · exact h.el_lt hi (by assumption)
  · exact within_mem (ha i hi).2 (by rw [(ha i hi).1]; omega)
end M

/-- what a reduction answers -/
def ReduceEnd (w : World) (p R K C : Nat) (F : M.Mx) (e : Ending) (w' : World) : Prop :=
  ∃ B cap G Cp vp, e = .returned (.agg #[.slice (some ⟨B, 0, none⟩) R cap, vp, .int .u64 ((M.red p R F K).d : Nat)]) ∧ Below w.heap.size w w' ∧ R ≤ cap ∧
    MatO w' w.heap.size B R C G Cp (M.red p R F K).m ∧ w'.ownsRow w.heap.size 3 1 vp (M.red p R F K).lead.length (ints (M.red p R F K).lead)

/-- one more row is laid -/
theorem MatO.push {w : World} {base B k C R : Nat} {G Cp : Nat → Nat} {F : M.Mx} (h : MatO w base B k C G Cp F) (hs : ∃ cs, w.heap[B]? = some (.cells cs 24 (0, 0)) ∧ cs.size = R) (hk : k < R)
    {g c : Nat} (hg : base ≤ g) (hc : C ≤ c) (hrow : Row w g C (F k)) (hne : ∀ i, i < k → G i ≠ g) :
    MatO (w.setCell ⟨B, k, none⟩ (.slice (some ⟨g, 0, none⟩) C c)) base B (k + 1) C (fun i => if i = k then g else G i) (fun i => if i = k then c else Cp i) F ∧
    ∃ cs, (w.setCell ⟨B, k, none⟩ (.slice (some ⟨g, 0, none⟩) C c)).heap[B]? = some (.cells cs 24 (0, 0)) ∧ cs.size = R := by
  obtain ⟨cs, h1, h2⟩ := h.top
  obtain ⟨ds, h3, h4⟩ := hs
  rw [h1] at h3
  simp only [Option.some.injEq, Obj.cells.injEq, and_true] at h3
  subst h3
  have hgB : g ≠ B := by
    obtain ⟨ds, h5, _⟩ := hrow
    intro e
    rw [e, h1] at h5
    simp at h5
  have hset := heap_setCell_same w B k cs _ (.slice (some ⟨g, 0, none⟩) C c) h1
  refine ⟨⟨h.baseB, ⟨_, hset, fun i hi => ?_⟩, fun i hi => ?_, fun i hi => ?_, fun i j hi hj e => ?_⟩, ⟨_, hset, by simpa using h4⟩⟩
  · by_cases e : i = k
    · subst e; rw [Array.getElem?_setIfInBounds_self_of_lt (by omega)]; simp
    · rw [Array.getElem?_setIfInBounds_ne (Ne.symm e), h2 i (by omega)]; simp [e]
  · by_cases e : i = k
    · subst e; simp only [if_true]; exact hrow.same (Below.heap_setCell _ _ _ _ hgB)
    · simp only [if_neg e]; exact (h.row i (by omega)).same (Below.heap_setCell _ _ _ _ (h.ne (by omega)))
  · by_cases e : i = k
    · simp only [if_pos e]; exact ⟨hg, hc⟩
    · simp only [if_neg e]; exact h.baseG i (by omega)
  · by_cases e1 : i = k <;> by_cases e2 : j = k
    · omega
    · simp only [if_pos e1, if_neg e2] at e; exact absurd e.symm (hne j (by omega))
    · simp only [if_neg e1, if_pos e2] at e; exact absurd e (hne i (by omega))
    · simp only [if_neg e1, if_neg e2] at e; exact h.inj i j (by omega) (by omega) e

theorem infoRow : (Try.prog.info? 24).map (fun i => (i.zero, i.size, i.bytes)) = some (some (.slice none 0 0), 1, 24) := by kernel_rfl
/-- make([][]uint64, n) -/
theorem make_rows (n : Nat) (hn : n ≤ 100000) : ∃ cs : Array Value, cs.size = n ∧ (∀ i, i < n → cs[i]? = some (.slice none 0 0)) ∧ ∀ W : World, (Instr.makeSlice 23 (.int .i64 ((n : Nat) : Int)) (.int .i64 ((n : Nat) : Int))).run Try.prog W = .ok (.slice (some ⟨W.heap.size, 0, none⟩) n n) (W.alloc (.cells cs 24)) := by
  obtain ⟨i0, hi0, hz0, hz1, hz2⟩ := info_parts infoRow
  have h := toList_madeCells_one (Value.slice none 0 0) n
  refine ⟨madeCells #[Value.slice none 0 0] n, ?_, fun i hi => ?_, fun W => run_make_row (P := Try.prog) 23 24 i0 (.slice none 0 0) Try.underlying23 hi0 hz0 hz1 rfl .i64 .i64 n (by rw [hz2]; omega) (by omega) W⟩
  · have := congrArg List.length h; simpa using this
  · rw [← Array.getElem?_toList, h]; simp [hi]
end Go.Proofs.Ytgoognipljknjaa
