/-
  Package matrix: unit; what the reductions append.
-/
import Derived.Test.YtgoognipljknjaaMr6
import Derived.Test.YtgoognipljknjaaMr3
import Derived.Deep.OwnRows
namespace Go.Proofs.Ytgoognipljknjaa
open Go.RowKit
set_option linter.unusedVariables false
set_option maxRecDepth 100000

/-- make([]uint64, n): what it runs to, and that it is a row of zeros -/
theorem make_u64 (n : Nat) (hn : n ≤ 100000) : ∃ cs : Array Value, (∀ W : World, (Instr.makeSlice 24 (.int .i64 ((n : Nat) : Int)) (.int .i64 ((n : Nat) : Int))).run Try.prog W = .ok (.slice (some ⟨W.heap.size, 0, none⟩) n n) (W.alloc (.cells cs 22))) ∧
    ∀ W : World, Row (W.alloc (.cells cs 22)) W.heap.size n (fun _ => 0) := by
  obtain ⟨i0, hi0, hz0, hz1, hz2⟩ := info_parts infoU64
  refine ⟨madeCells #[Value.int .u64 0] n, fun W => run_make_row (P := Try.prog) 24 22 i0 (.int .u64 0) Try.underlying24 hi0 hz0 hz1 rfl .i64 .i64 n (by rw [hz2]; omega) (by omega) W, fun W => ⟨_, heap_alloc_new W _, fun j hj => ?_⟩⟩
  have h := toList_madeCells_one (Value.int .u64 0) n
  rw [← Array.getElem?_toList, h]
  simp [hj]

set_option maxHeartbeats 400000 in
theorem unit_any (n i : Nat) (w : World) (hn : n ≤ 1000) (hi : i < n) :
    Calls Try.prog 65 #[.int .i64 n, .int .i64 i] w (GivesRow w n fun j => if j = i then 1 else 0) := by
  obtain ⟨cs, hmk, hrow⟩ := make_u64 n (by omega)
  have hr := hrow w
  have c1 := hr.cell hi
  have f1 := hr.free i
  have hs : Row (w.alloc (.cells (cs.setIfInBounds i (.int .u64 1)) 22)) w.heap.size n (fun j => if j = i then 1 else 0) := by
    obtain ⟨ds, h1, h2⟩ := hr
    rw [heap_alloc_new] at h1
    simp only [Option.some.injEq, Obj.cells.injEq] at h1
    obtain ⟨rfl, _⟩ := h1
    refine ⟨_, heap_alloc_new w _, fun j hj => ?_⟩
    have his : i < cs.size := (Array.getElem?_eq_some_iff.1 (h2 i hi)).1
    dsimp only
    by_cases e : j = i
    · subst e; rw [if_pos rfl, Array.getElem?_setIfInBounds_self_of_lt his]; rfl
    · rw [if_neg e, Array.getElem?_setIfInBounds_ne (Ne.symm e)]; exact h2 j hj
  have HS := Lib.hid hs
  clear hr hs hrow
  go_enter Try.func65, Try.ntmps65
  go_wp2_with fail
  go_ret
  exact ⟨_, _, rfl, Nat.le_refl _, Nat.le_refl _, HS.out, (Below.refl _ _).alloc (Nat.le_refl _) _⟩

set_option maxHeartbeats 400000 in
theorem nothing_any (i : Nat) (w : World) :
    Calls Try.prog 95 #[.int .i64 i] w (Gives w []) := by
  go_enter Try.func95, Try.ntmps95
  go_wp2_with fail
  go_ret
  exact ⟨_, rfl, ⟨by simp, by simp, .inl ⟨none, 0, rfl, rfl, fun _ => rfl⟩⟩, Below.refl _ _⟩

set_option maxHeartbeats 400000 in
theorem unitOf_any (n i b cap : Nat) (A : Option Addr) (w : World) (hn : n ≤ 1000) (hi : i < n) (hb : w.cell? ⟨b, 0, none⟩ = some (.slice A n cap)) :
    Calls Try.prog 96 #[.int .i64 i, .pointer (some ⟨b, 0, none⟩)] w (Gives w (M.tabM n fun j => if j = i then 1 else 0)) := by
  have HU := Lib.hid (unit_any n i w hn hi)
  go_enter Try.func96, Try.ntmps96
  go_wp2_with fail
  refine HU.out.mono ?_
  rintro e w1 ⟨g, c, rfl, hg, hc, hr, hB⟩
  have HN := Lib.hid (hr.nums (Nat.le_refl n) hc (by omega) (fun j _ => by split <;> omega))
  have HB := Lib.hid hB
  clear hr hB hb
  go_wp2_with fail
  go_ret
  exact ⟨_, rfl, HN.out, HB.out⟩

set_option maxHeartbeats 400000 in
theorem oneOf_any (i b : Nat) (v : Value) (zs : List Nat) (w : World) (hl : zs.length ≤ 1000) (hi : i < zs.length) (hv : Nums w v zs) (hb : w.cell? ⟨b, 0, none⟩ = some v) :
    Calls Try.prog 62 #[.int .i64 i, .pointer (some ⟨b, 0, none⟩)] w (Gives w [zs.getD i 0]) := by
  obtain ⟨h1, h2, h3⟩ := hv
  rcases h3 with ⟨a, cap, rfl, rfl, _⟩ | ⟨bb, off, cap, rfl, hc, hlt, hcell⟩
  · simp at hi
  have hx := h1 (zs.getD i 0) (by rw [List.getD_eq_getElem?_getD, List.getElem?_eq_getElem hi]; simp)
  have hce := hcell i hi
  have HR := Lib.hid (show Nums w (.slice (some ⟨bb, off + i, none⟩) 1 (cap - i)) [zs.getD i 0] from ⟨by simpa using hx, by simp, .inr ⟨bb, off + i, cap - i, rfl, by simp; omega, hlt, fun j hj => by
    obtain rfl : j = 0 := by simpa using hj
    simpa using hce⟩⟩)
  have n1 : ¬ cap = i := by omega
  clear hcell hce h1
  go_enter Try.func62, Try.ntmps62
  go_wp2_with fail
  go_ret
  refine ⟨_, rfl, ?_, Below.refl _ _⟩
  have e : i + 1 - i = 1 := by omega
  first | exact HR.out | (rw [e]; exact HR.out) | (simp only [e]; exact HR.out)
end Go.Proofs.Ytgoognipljknjaa
