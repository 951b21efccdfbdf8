/-
  Matrices: helpers of the references (out of package pair).
-/
import Derived.Test.YtfkepkdfpjaniaaXA
import Derived.Test.YtfkepkdfpjaniaaP7a
import Derived.BigQuiet
import Derived.Deep.RegionHeld3
import Derived.StillTailTactics
import Derived.Test.YtfkepkdfpjaniaaLex
import Derived.Deep.RegionLaw
import Derived.Deep.AppendLies
import Derived.Lib.AppendZerosOnto
namespace Go.Proofs.Ytfkepkdfpjaniaa
open Go.RowKit
set_option linter.unusedVariables false
set_option maxRecDepth 100000

theorem mat_view6 {w : World} {v : Value} {m : List (List Nat)} (h : Mat w v m) : ∃ A cap, v = .slice A m.length cap ∧ m.length ≤ cap ∧ m.length ≤ 17592186043904 ∧
    (0 < m.length → ∃ b off, A = some ⟨b, off, none⟩ ∧ b < w.heap.size ∧ ∀ i, i < m.length → ∃ Au cu, w.cell? ⟨b, off + i, none⟩ = some (.slice Au (m.getD i []).length cu) ∧ Nums w (.slice Au (m.getD i []).length cu) (m.getD i [])) := by
  obtain ⟨h1, A, cap, h2, h3, h4⟩ := h
  refine ⟨A, cap, h2, h3, h1, fun h0 => ?_⟩
  obtain ⟨b, off, e, hb, hc⟩ := h4 h0
  refine ⟨b, off, e, hb, fun i hi => ?_⟩
  obtain ⟨u, hu, hn⟩ := hc i hi
  obtain ⟨Au, cu, rfl, _⟩ := nums_view hn
  exact ⟨Au, cu, hu, hn⟩
theorem below_drewN {B : Nat} {a w : World} (h : Below B a w) (n : Nat) : Below B a (w.drewN n) := ⟨h.os, h.tape, h.output, h.size, h.block⟩
/-- one row of it, cell by cell -/
theorem mat_row {w : World} {A : Option Addr} {n cap : Nat} {m : List (List Nat)} (h : Mat w (.slice A n cap) m) : n = m.length ∧ (0 < m.length → ∃ b off, A = some ⟨b, off, none⟩ ∧ b < w.heap.size ∧
    ∀ i, i < m.length → ∃ Au cu, w.cell? ⟨b, off + i, none⟩ = some (.slice Au (m.getD i []).length cu) ∧ Nums w (.slice Au (m.getD i []).length cu) (m.getD i []) ∧
      (0 < (m.getD i []).length → ∃ g o, Au = some ⟨g, o, none⟩ ∧ g < w.heap.size ∧ ∀ k, k < (m.getD i []).length → w.cell? ⟨g, o + k, none⟩ = some (.int .u64 (M.el m i k : Nat)))) := by
  obtain ⟨A', cap', e, hc, hl, h4⟩ := mat_view6 h
  simp only [Value.slice.injEq] at e
  obtain ⟨rfl, rfl, rfl⟩ := e
  refine ⟨rfl, fun h0 => ?_⟩
  obtain ⟨b, off, e, hb, h5⟩ := h4 h0
  refine ⟨b, off, e, hb, fun i hi => ?_⟩
  obtain ⟨Au, cu, h6, h7⟩ := h5 i hi
  refine ⟨Au, cu, h6, h7, fun h8 => ?_⟩
  obtain ⟨A2, c2, e2, _, _, h9⟩ := nums_view h7
  simp only [Value.slice.injEq] at e2
  obtain ⟨rfl, _, _⟩ := e2
  exact h9 h8

namespace M
def symB (n : Nat) (m : List (List Nat)) : Bool := (List.range n).all fun i => (List.range n).all fun k => el m i k == el m k i
/-- the error of a matrix of n rows of n numbers that must be symmetric -/
def pform (p n : Nat) (m : List (List Nat)) : Int := if m.length ≠ n then 4 else if m.all (fun r => r.length == n) = false then 4 else if m.all (within p) = false then 2 else if symB n m = false then 4 else 0
theorem getD_of_mem {m : List (List Nat)} {r : List Nat} (h : r ∈ m) : ∃ i, i < m.length ∧ m.getD i [] = r := by
  obtain ⟨i, hi, rfl⟩ := List.getElem_of_mem h
  exact ⟨i, hi, by simp [List.getD_eq_getElem?_getD, hi]⟩
theorem mem_of_getD {m : List (List Nat)} {i : Nat} (h : i < m.length) : m.getD i [] ∈ m := by
  rw [List.getD_eq_getElem?_getD, List.getElem?_eq_getElem h]
  exact List.getElem_mem h
theorem all_rows {m : List (List Nat)} {f : List Nat → Bool} : m.all f = true ↔ ∀ i, i < m.length → f (m.getD i []) = true := by
  rw [List.all_eq_true]
  refine ⟨fun h i hi => h _ (mem_of_getD hi), fun h r hr => ?_⟩
  obtain ⟨i, hi, rfl⟩ := getD_of_mem hr
  exact h i hi
theorem all_rows_no {m : List (List Nat)} {f : List Nat → Bool} {i : Nat} (hi : i < m.length) (h : f (m.getD i []) = false) : m.all f = false := by
  cases e : m.all f with
  | false => rfl
  | true => rw [all_rows.1 e i hi] at h; cases h
theorem symB_iff {n : Nat} {m : List (List Nat)} : symB n m = true ↔ SymF n (el m) := by
  unfold symB SymF
  simp only [List.all_eq_true, List.mem_range, beq_iff_eq]
  exact ⟨fun h i k hi hk => h i hi k hk, fun h i hi k hk => h i k hi hk⟩
theorem symB_no {n : Nat} {m : List (List Nat)} {i k : Nat} (hi : i < n) (hk : k < n) (h : el m i k ≠ el m k i) : symB n m = false := by
  cases e : symB n m with
  | false => rfl
  | true => exact absurd (symB_iff.1 e i k hi hk) h
/-- m is a pair for p and t, n = t + 1 -/
structure POk (p n : Nat) (m : List (List Nat)) : Prop where
  len : m.length = n
  rows : ∀ i, i < n → (m.getD i []).length = n
  lt : ∀ i, i < n → within p (m.getD i []) = true
  sym : SymF n (el m)
theorem pform_len {p n : Nat} {m : List (List Nat)} (h : m.length ≠ n) : pform p n m = 4 := by unfold pform; rw [if_pos h]
theorem pform_rows {p n : Nat} {m : List (List Nat)} (h : m.length = n) {i : Nat} (hi : i < m.length) (hr : (m.getD i []).length ≠ n) : pform p n m = 4 := by
  unfold pform
  rw [if_neg (by simp [h]), if_pos (all_rows_no hi (by simpa using hr))]
theorem pform_lt {p n : Nat} {m : List (List Nat)} (h : m.length = n) (hr : ∀ i, i < m.length → (m.getD i []).length = n) {i : Nat} (hi : i < m.length) (hw : within p (m.getD i []) = false) : pform p n m = 2 := by
  unfold pform
  rw [if_neg (by simp [h]), if_neg (by rw [all_rows.2 fun i hi => by simpa using hr i hi]; simp), if_pos (all_rows_no hi hw)]
theorem pform_sym {p n : Nat} {m : List (List Nat)} (h : m.length = n) (hr : ∀ i, i < m.length → (m.getD i []).length = n) (hw : ∀ i, i < m.length → within p (m.getD i []) = true) {i k : Nat} (hi : i < n) (hk : k < n) (hs : el m i k ≠ el m k i) : pform p n m = 4 := by
  unfold pform
  rw [if_neg (by simp [h]), if_neg (by rw [all_rows.2 fun i hi => by simpa using hr i hi]; simp), if_neg (by rw [all_rows.2 hw]; simp), if_pos (symB_no hi hk hs)]
theorem pform_ok {p n : Nat} {m : List (List Nat)} (h : POk p n m) : pform p n m = 0 := by
  unfold pform
  rw [if_neg (by simp [h.len]), if_neg (by rw [all_rows.2 fun i hi => by simpa using h.rows i (by rw [← h.len]; exact hi)]; simp), if_neg (by rw [all_rows.2 fun i hi => h.lt i (by rw [← h.len]; exact hi)]; simp), if_neg (by rw [symB_iff.2 h.sym]; simp)]
theorem pform_zero {p n : Nat} {m : List (List Nat)} (h : pform p n m = 0) : POk p n m := by
  unfold pform at h
  split at h
  · cases h
  · rename_i h1
    have h1 : m.length = n := by simpa using h1
    split at h
    · cases h
    · rename_i h2
      split at h
      · cases h
      · rename_i h3
        split at h
        · cases h
        · rename_i h4
          simp only [Bool.not_eq_false] at h2 h3 h4
          exact ⟨h1, fun i hi => by simpa using all_rows.1 h2 i (by omega), fun i hi => all_rows.1 h3 i (by omega), symB_iff.1 h4⟩
theorem POk.el_lt {p n : Nat} {m : List (List Nat)} (h : POk p n m) {i k : Nat} (hi : i < n) (hk : k < n) : el m i k < p := within_mem (h.lt i hi) (by rw [h.rows i hi]; exact hk)
theorem POk.rows' {p n : Nat} {m : List (List Nat)} (h : POk p n m) : m = tabMM n n (el m) := by
  apply List.ext_getElem
  · rw [tabMM_len, h.len]
  · intro i h1 h2
    have hi : i < n := by rw [← h.len]; exact h1
    have e1 : m[i] = m.getD i [] := by simp [List.getD_eq_getElem?_getD, h1]
    have e2 : (tabMM n n (el m))[i] = (tabMM n n (el m)).getD i [] := by simp [List.getD_eq_getElem?_getD, h2]
    rw [e1, e2, tabMM_at _ _ hi]
    refine (tabM_of (h.rows i hi)).symm
theorem POk.tab {p n : Nat} {F : Nat → Nat → Nat} (hs : SymF n F) (hl : ∀ i k, i < n → k < n → F i k < p) : POk p n (tabMM n n F) where
  len := tabMM_len _ _ _
  rows i hi := by rw [tabMM_at _ _ hi, tabM_len]
  lt i hi := by rw [tabMM_at _ _ hi]; exact within_tabM fun j hj => hl i j hi hj
  sym i k hi hk := by rw [tabMM_el F hi hk, tabMM_el F hk hi]; exact hs i k hi hk
end M
end Go.Proofs.Ytfkepkdfpjaniaa
namespace Go.Proofs.Ytfkepkdfpjaniaa
open Go.RowKit
set_option linter.unusedVariables false
set_option maxRecDepth 100000

namespace M
def bnd (p : Nat) (t : Int) : Int := if isP p = true then (if t < 0 ∨ 3 < t then 2 else 0) else 2
theorem bnd_zero {p : Nat} {t : Int} (h : bnd p t = 0) : ∃ T : Nat, t = T ∧ T ≤ 3 ∧ isP p = true := by
  unfold bnd at h
  split at h
  · rename_i hp
    split at h
    · cases h
    · exact ⟨t.toNat, by omega, by omega, hp⟩
  · cases h
theorem bnd_ok {p T : Nat} (hp : isP p = true) (hT : T ≤ 3) : bnd p T = 0 := by
  unfold bnd
  rw [if_pos hp, if_neg (by omega)]
theorem bnd_no {p : Nat} {t : Int} (h : bnd p t ≠ 0) : bnd p t = 2 := by
  unfold bnd at h ⊢
  split at h
  · split at h
    · rename_i h1 h2
      rw [if_pos h1, if_pos h2]
    · exact absurd rfl h
  · rename_i h1
    rw [if_neg h1]
/-- how many numbers are drawn -/
def psize (t : Int) : Int := if t < 0 ∨ 3 < t then 0 else (t + 1) * (t + 2) / 2 - 1
end M
end Go.Proofs.Ytfkepkdfpjaniaa
namespace Go.Proofs.Ytfkepkdfpjaniaa
open Go.RowKit
set_option linter.unusedVariables false
set_option maxRecDepth 100000

namespace M
def pfrms (p n : Nat) (ms : Nat → List (List Nat)) : Nat → Int
  | 0 => 0
  | k + 1 => if pfrms p n ms k = 0 then pform p n (ms k) else pfrms p n ms k
theorem pfrms_stop {p n : Nat} {ms : Nat → List (List Nat)} {k : Nat} (h : pfrms p n ms k = 0) (hk : pform p n (ms k) ≠ 0) : ∀ N, k < N → pfrms p n ms N = pform p n (ms k)
  | 0, hn => absurd hn (by omega)
  | N + 1, hn => by
    unfold pfrms
    by_cases e : k = N
    · subst e; rw [if_pos h]
    · have := pfrms_stop h hk N (by omega)
      rw [this, if_neg hk]
theorem pfrms_next {p n : Nat} {ms : Nat → List (List Nat)} {k : Nat} (h : pfrms p n ms k = 0) (hk : pform p n (ms k) = 0) : pfrms p n ms (k + 1) = 0 := by unfold pfrms; rw [if_pos h, hk]
/-- the error for a prime, a degree and a matrix -/
def pchk (p : Nat) (t : Int) (m : List (List Nat)) : Int := if bnd p t = 0 then pform p (t.toNat + 1) m else 2
def pchkl (p : Nat) (t : Int) (ms : Nat → List (List Nat)) (n : Nat) : Int := if bnd p t = 0 then pfrms p (t.toNat + 1) ms n else 2
theorem pchk_zero {p : Nat} {t : Int} {m : List (List Nat)} (h : pchk p t m = 0) : ∃ T : Nat, t = T ∧ T ≤ 3 ∧ isP p = true ∧ POk p (T + 1) m := by
  unfold pchk at h
  split at h
  · rename_i hb
    obtain ⟨T, rfl, hT, hp⟩ := bnd_zero hb
    exact ⟨T, rfl, hT, hp, pform_zero h⟩
  · cases h
theorem pchk_ok {p T : Nat} {m : List (List Nat)} (hp : isP p = true) (hT : T ≤ 3) (h : POk p (T + 1) m) : pchk p T m = 0 := by
  unfold pchk
  rw [if_pos (bnd_ok hp hT)]
  exact pform_ok h
end M

end Go.Proofs.Ytfkepkdfpjaniaa
namespace Go.Proofs.Ytfkepkdfpjaniaa
open Go.RowKit
set_option linter.unusedVariables false
set_option maxRecDepth 100000

theorem below_of_drew6 {W w' : World} (h : Below W.drew.heap.size W.drew w') : Below W.heap.size W w' := ⟨h.os, h.tape, h.output, h.size, h.block⟩
end Go.Proofs.Ytfkepkdfpjaniaa
namespace Go.Proofs.Ytfkepkdfpjaniaa
open Go.RowKit
set_option linter.unusedVariables false
set_option maxRecDepth 100000

theorem infoRow6 : (Try.prog.info? 31).map (fun i => (i.zero, i.size, i.bytes)) = some (some (.slice none 0 0), 1, 24) := by kernel_rfl
/-- make([]uint64, n) -/
theorem make6_u64 (n : Nat) (hn : n ≤ 100000) : ∃ cs : Array Value, (∀ W : World, (Instr.makeSlice 31 (.int .i64 ((n : Nat) : Int)) (.int .i64 ((n : Nat) : Int))).run Try.prog W = .ok (.slice (some ⟨W.heap.size, 0, none⟩) n n) (W.alloc (.cells cs 22))) ∧
    ∀ W : World, Row (W.alloc (.cells cs 22)) W.heap.size n (fun _ => 0) := by
  obtain ⟨i0, hi0, hz0, hz1, hz2⟩ := info_parts infoU64
  refine ⟨madeCells #[Value.int .u64 0] n, fun W => run_make_row (P := Try.prog) 31 22 i0 (.int .u64 0) Try.underlying31 hi0 hz0 hz1 rfl .i64 .i64 n (by rw [hz2]; omega) (by omega) W, fun W => ⟨_, heap_alloc_new W _, fun j hj => ?_⟩⟩
  have h := toList_madeCells_one (Value.int .u64 0) n
  rw [← Array.getElem?_toList, h]
  simp [hj]
/-- make([][]uint64, n) -/
theorem make6_rows (n : Nat) (hn : n ≤ 100000) : ∃ cs : Array Value, cs.size = n ∧ (∀ i, i < n → cs[i]? = some (.slice none 0 0)) ∧ ∀ W : World, (Instr.makeSlice 25 (.int .i64 ((n : Nat) : Int)) (.int .i64 ((n : Nat) : Int))).run Try.prog W = .ok (.slice (some ⟨W.heap.size, 0, none⟩) n n) (W.alloc (.cells cs 31)) := by
  obtain ⟨i0, hi0, hz0, hz1, hz2⟩ := info_parts infoRow6
  have h := toList_madeCells_one (Value.slice none 0 0) n
  refine ⟨madeCells #[Value.slice none 0 0] n, ?_, fun i hi => ?_, fun W => run_make_row (P := Try.prog) 25 31 i0 (.slice none 0 0) Try.underlying25 hi0 hz0 hz1 rfl .i64 .i64 n (by rw [hz2]; omega) (by omega) W⟩
  · have := congrArg List.length h; simpa using this
  · rw [← Array.getElem?_toList, h]; simp [hi]

namespace M
theorem tabM_succ (n : Nat) (c : Nat → Nat) : tabM (n + 1) c = tabM n c ++ [c n] := by simp [tabM, List.range_succ]
theorem pv_nil (p : Nat) (c : Nat → Nat) (x : Nat) : pv p 0 c x = 0 := by simp [pv, tabM, evN]
theorem pv_succ (p n : Nat) (c : Nat → Nat) (x : Nat) : pv p (n + 1) c x = (pv p n c x + c n * pw p x n % p) % p := by
  unfold pv pw
  rw [tabM_succ, evN_snoc, tabM_len]
  rw [Nat.mul_mod_mod, ← Nat.add_mod, Nat.mul_comm]
/-- column by column: k columns are done, of the next i terms -/
def rowK (p n : Nat) (F : Nat → Nat → Nat) (x k i j : Nat) : Nat := if j < k then colv p n F x j else if j = k then pv p i (fun i => F i k) x else 0
theorem rowK_next (p n : Nat) (F : Nat → Nat → Nat) (x k j : Nat) : rowK p n F x k n j = rowK p n F x (k + 1) 0 j := by
  unfold rowK
  rcases Nat.lt_trichotomy j k with h | rfl | h
  · rw [if_pos h, if_pos (by omega)]
  · rw [if_neg (by omega), if_pos rfl, if_pos (by omega)]; rfl
  · rw [if_neg (by omega), if_neg (by omega), if_neg (by omega)]
    split
    · rw [pv_nil]
    · rfl
theorem rowK_zero (p n : Nat) (F : Nat → Nat → Nat) (x j : Nat) : rowK p n F x 0 0 j = 0 := by
  unfold rowK
  rw [if_neg (by omega), pv_nil]
  split <;> rfl
end M

end Go.Proofs.Ytfkepkdfpjaniaa
namespace Go.Proofs.Ytfkepkdfpjaniaa
open Go.RowKit
set_option linter.unusedVariables false
set_option maxRecDepth 100000

def slices (C : Nat) (G Cp : Nat → Nat) (k : Nat) : List Value := (List.range k).map fun i => .slice (some ⟨G i, 0, none⟩) C (Cp i)
theorem slices_len (C : Nat) (G Cp : Nat → Nat) (k : Nat) : (slices C G Cp k).length = k := by simp [slices]
theorem slices_get {C : Nat} {G Cp : Nat → Nat} {k i : Nat} (h : i < k) : (slices C G Cp k)[i]? = some (.slice (some ⟨G i, 0, none⟩) C (Cp i)) := by simp [slices, h]
theorem slices_succ (C : Nat) (G Cp : Nat → Nat) (k g c : Nat) : slices C (fun i => if i = k then g else G i) (fun i => if i = k then c else Cp i) (k + 1) = slices C G Cp k ++ [.slice (some ⟨g, 0, none⟩) C c] := by
  unfold slices
  rw [List.range_succ, List.map_append]
  congr 1
  · apply List.map_congr_left
    intro i hi
    have : i ≠ k := by have := List.mem_range.1 hi; omega
    simp [this]
  · simp

structure MatA (w : World) (base : Nat) (tv : Value) (k C : Nat) (G Cp : Nat → Nat) (F : Nat → Nat → Nat) : Prop where
  own : w.ownsRow base 31 1 tv k (slices C G Cp k)
  row : ∀ i, i < k → Row w (G i) C (F i)
  baseG : ∀ i, i < k → base ≤ G i ∧ C ≤ Cp i
  inj : ∀ i j, i < k → j < k → G i = G j → i = j
section
variable {w w' : World} {base k C : Nat} {tv : Value} {G Cp : Nat → Nat} {F F' : Nat → Nat → Nat}
theorem MatA.start (w : World) (base C : Nat) (F : Nat → Nat → Nat) : MatA w base (.slice none 0 0) 0 C (fun _ => 0) (fun _ => 0) F :=
  ⟨World.ownsRow_nil _ _ _ _, fun i hi => absurd hi (by omega), fun i hi => absurd hi (by omega), fun i j hi => absurd hi (by omega)⟩
theorem MatA.form (h : MatA w base tv k C G Cp F) : ∃ A cap, tv = .slice A k cap := by
  rcases h.own.2 with ⟨rfl, rfl⟩ | ⟨g, cap, cur, rfl, _⟩
  · exact ⟨none, 0, rfl⟩
  · exact ⟨_, _, rfl⟩
theorem MatA.ne (h : MatA w base tv k C G Cp F) {i : Nat} (hi : i < k) : tv.ownBlock ≠ some (G i) := by
  obtain ⟨cs, h1, _⟩ := h.row i hi
  exact own_ne h.own h1 (by decide)
/-- no block of the matrix has turned -/
theorem MatA.below (h : MatA w base tv k C G Cp F) {b : Nat} (hb : Below b w w') (hw : w.heap.size ≤ b) : MatA w' base tv k C G Cp F := by
  refine ⟨⟨h.own.1, ?_⟩, fun i hi => (h.row i hi).same (hb.block _ (by have := (h.row i hi).lt; omega)), h.baseG, h.inj⟩
  rcases h.own.2 with h2 | ⟨g, c, cur, hv, hg, hh, r⟩
  · exact .inl h2
  · exact .inr ⟨g, c, cur, hv, hg, (hb.block g (by have := lt_of_block hh; omega)).trans hh, r⟩
theorem MatA.mat (h : MatA w base tv k C G Cp F) (hk : k ≤ 1000) (hC : C ≤ 1000) (hF : ∀ i, i < k → ∀ j, j < C → F i j < 18446744073709551616) : Mat w tv (M.tabMM k C F) := by
  refine ⟨by rw [M.tabMM_len]; omega, ?_⟩
  rcases h.own.2 with ⟨rfl, rfl⟩ | ⟨g, cap, cur, rfl, hg, hh, hc, _⟩
  · exact ⟨none, 0, rfl, by simp [M.tabMM], fun h => absurd h (by simp [M.tabMM])⟩
  · refine ⟨_, cap, by rw [M.tabMM_len], by rw [M.tabMM_len]; exact hc, fun _ => ⟨g, 0, rfl, lt_of_block hh, fun i hi => ?_⟩⟩
    rw [M.tabMM_len] at hi
    have hcell := h.own.cells (g := g) rfl i _ (slices_get hi)
    rw [Addr.add_lit] at hcell
    rw [M.tabMM_at C F hi]
    exact ⟨_, hcell, (h.row i hi).nums (Nat.le_refl _) (h.baseG i hi).2 (by omega) (hF i hi)⟩
theorem MatA.done (h : MatA w base tv k C G Cp F) (hk : 0 < k) : ∃ B cap, tv = .slice (some ⟨B, 0, none⟩) k cap ∧ k ≤ cap ∧ MatO w base B k C G Cp F := by
  rcases h.own.2 with ⟨_, h0⟩ | ⟨g, cap, cur, hv, hg, hh, hc, hm, hsz, hx⟩
  · omega
  · refine ⟨g, cap, hv, hc, hg, ⟨cur, hh, fun i hi => ?_⟩, h.row, h.baseG, h.inj⟩
    have e : cur[i]? = (cur.toList.take (k * 1))[i]? := by rw [List.getElem?_take, if_pos (by omega)]; simp
    rw [e, hx]
    exact slices_get hi
theorem MatA.push (h : MatA w base tv k C G Cp F) {g c : Nat} {v' : Value} (hrow : Row w g C (F k)) (hg : base ≤ g) (hc : C ≤ c) (hne : ∀ i, i < k → G i ≠ g) (hgr : w.grownBy w' tv.ownBlock)
    (hown : w'.ownsRow base 31 1 v' (k + 1) (slices C G Cp k ++ [.slice (some ⟨g, 0, none⟩) C c])) : MatA w' base v' (k + 1) C (fun i => if i = k then g else G i) (fun i => if i = k then c else Cp i) F := by
  have hgo : tv.ownBlock ≠ some g := by
    obtain ⟨cs, h1, _⟩ := hrow
    exact own_ne h.own h1 (by decide)
  refine ⟨by rw [slices_succ]; exact hown, fun i hi => ?_, fun i hi => ?_, fun i j hi hj e => ?_⟩
  · by_cases e : i = k
    · subst e; simp only [if_true]; exact hrow.grown hgr (Ne.symm hgo)
    · simp only [if_neg e]; exact (h.row i (by omega)).grown hgr (Ne.symm (h.ne (by omega)))
  · by_cases e : i = k
    · simp only [if_pos e]; exact ⟨hg, hc⟩
    · simp only [if_neg e]; exact h.baseG i (by omega)
  · by_cases e1 : i = k <;> by_cases e2 : j = k
    · omega
    · simp only [if_pos e1, if_neg e2] at e; exact absurd e.symm (hne j (by omega))
    · simp only [if_neg e1, if_pos e2] at e; exact absurd e (hne i (by omega))
    · simp only [if_neg e1, if_neg e2] at e; exact h.inj i j (by omega) (by omega) e
end

/-- append(out, row): row lies in a block g of its own; the world before the one row was laid into a block is w -/
theorem wpList_append_row {w : World} {ops : Array Oper} {rest : List Oper} {o : Oper} {a : Act} {Q : Exit → Act → World → Prop} (hgd : o.guard = none) (s x : Operand)
    (ho : o.op = .call { callee := .builtin .append, args := #[s, x], argTypes := #[25, 25] }) {base k C g c : Nat} {tv : Value} {G Cp : Nat → Nat} {F : Nat → Nat → Nat} (hs : a.eval s = tv)
    (hx : a.eval x = .slice (some ⟨w.heap.size, 0, none⟩) 1 1) (hA : MatA w base tv k C G Cp F) (hrow : Row w g C (F k)) (hg : base ≤ g) (hc : C ≤ c) (hne : ∀ i, i < k → G i ≠ g) (hk : k ≤ 1000) (hbase : base ≤ w.heap.size)
    (h : ∀ v' w', MatA w' base v' (k + 1) C (fun i => if i = k then g else G i) (fun i => if i = k then c else Cp i) F → Below base w w' → wpList Try.prog ops Q rest (a.put o.dst v') w') :
    wpList Try.prog ops Q (o :: rest) a (w.alloc (.cells #[.slice (some ⟨g, 0, none⟩) C c] 31)) := by
  obtain ⟨i0, hi0, hz0, hz1, hz2⟩ := info_parts infoRow6
  have hA2 := hA.below (Below.refl w.heap.size w |>.alloc (Nat.le_refl _) (.cells #[.slice (some ⟨g, 0, none⟩) C c] 31)) (Nat.le_refl _)
  have hrow2 := hrow.alloc (.cells #[.slice (some ⟨g, 0, none⟩) C c] 31)
  refine wpList_append_own _ hgd s x 25 ho base 31 i0 (.slice none 0 0) 1 24 Try.underlying25 hi0 hz0 hz1 hz2 rfl (by decide) tv k _ hs hA2.own ⟨w.heap.size, 0, none⟩ 1 1 [.slice (some ⟨g, 0, none⟩) C c] hx rfl ?_ ?_ ?_ ?_ ?_ ?_
  · exact World.news_of_block (cs := #[.slice (some ⟨g, 0, none⟩) C c]) (fr := (0, 0)) (heap_alloc_new w _)
  · intro u hu; simp at hu; subst hu; rfl
  · unfold maxLen; omega
  · omega
  · simp; omega
  · intro v' w' hown hgr _
    have hlt := hA2.own.lt
    refine h v' w' (hA2.push hrow2 hg hc hne hgr hown) ?_
    exact ((Below.refl base w).alloc hbase _).grown hgr (by simp; omega) (fun r hr => (hlt r hr).1)

theorem own_keep {w w' : World} {base : Nat} {e : TypeId} {size : Nat} {v : Value} {n : Nat} {xs : List Value} (h : w.ownsRow base e size v n xs) (hb : Below w.heap.size w w') : w'.ownsRow base e size v n xs := by
  obtain ⟨h1, h2⟩ := h
  refine ⟨h1, ?_⟩
  rcases h2 with h2 | ⟨g, cap, cur, hv, hg, hh, r⟩
  · exact .inl h2
  · exact .inr ⟨g, cap, cur, hv, hg, (hb.block g (Array.getElem?_eq_some_iff.1 hh).1).trans hh, r⟩
/-- append(out, y), y a number: the world before y was laid into a block is w -/
theorem wpList_append_num {w : World} {ops : Array Oper} {rest : List Oper} {o : Oper} {a : Act} {Q : Exit → Act → World → Prop} (hgd : o.guard = none) (s x : Operand)
    (ho : o.op = .call { callee := .builtin .append, args := #[s, x], argTypes := #[31, 31] }) {base n y : Nat} {tv : Value} {l : List Nat} (hs : a.eval s = tv)
    (hx : a.eval x = .slice (some ⟨w.heap.size, 0, none⟩) 1 1) (hown : w.ownsRow base 22 1 tv n (vals l)) (hn : n ≤ 1000) (hbase : base ≤ w.heap.size)
    (h : ∀ v' w', w'.ownsRow base 22 1 v' (n + 1) (vals (l ++ [y])) → Below base w w' → wpList Try.prog ops Q rest (a.put o.dst v') w') :
    wpList Try.prog ops Q (o :: rest) a (w.alloc (.cells #[.int .u64 (y : Nat)] 22)) := by
  obtain ⟨i0, hi0, hz0, hz1, hz2⟩ := info_parts infoU64
  have ho2 := hown.alloc (.cells #[.int .u64 (y : Nat)] 22)
  refine wpList_append_own _ hgd s x 31 ho base 22 i0 (.int .u64 0) 1 8 Try.underlying31 hi0 hz0 hz1 hz2 rfl (by decide) tv n _ hs ho2 ⟨w.heap.size, 0, none⟩ 1 1 [.int .u64 (y : Nat)] hx rfl ?_ ?_ ?_ ?_ ?_ ?_
  · exact World.news_of_block (cs := #[.int .u64 (y : Nat)]) (fr := (0, 0)) (heap_alloc_new w _)
  · intro u hu; simp at hu; subst hu; rfl
  · unfold maxLen; omega
  · omega
  · simp; omega
  · intro v' w' hown' hgr _
    have hlt := ho2.lt
    refine h v' w' (by rw [vals_app]; exact hown') ?_
    exact ((Below.refl base w).alloc hbase _).grown hgr (by simp; omega) (fun r hr => (hlt r hr).1)
/-- append(out, y), y an int -/
theorem wpList_append_int {w : World} {ops : Array Oper} {rest : List Oper} {o : Oper} {a : Act} {Q : Exit → Act → World → Prop} (hgd : o.guard = none) (s x : Operand)
    (ho : o.op = .call { callee := .builtin .append, args := #[s, x], argTypes := #[59, 59] }) {base n y : Nat} {tv : Value} {l : List Nat} (hs : a.eval s = tv)
    (hx : a.eval x = .slice (some ⟨w.heap.size, 0, none⟩) 1 1) (hown : w.ownsRow base 3 1 tv n (ints l)) (hn : n ≤ 1000) (hbase : base ≤ w.heap.size)
    (h : ∀ v' w', w'.ownsRow base 3 1 v' (n + 1) (ints (l ++ [y])) → w.grownBy w' tv.ownBlock → Below base w w' → wpList Try.prog ops Q rest (a.put o.dst v') w') :
    wpList Try.prog ops Q (o :: rest) a (w.alloc (.cells #[.int .i64 (y : Nat)] 3)) := by
  obtain ⟨i0, hi0, hz0, hz1, hz2⟩ := info_parts infoI64
  have ho2 := hown.alloc (.cells #[.int .i64 (y : Nat)] 3)
  refine wpList_append_own _ hgd s x 59 ho base 3 i0 (.int .i64 0) 1 8 Try.underlying59 hi0 hz0 hz1 hz2 rfl (by decide) tv n _ hs ho2 ⟨w.heap.size, 0, none⟩ 1 1 [.int .i64 (y : Nat)] hx rfl ?_ ?_ ?_ ?_ ?_ ?_
  · exact World.news_of_block (cs := #[.int .i64 (y : Nat)]) (fr := (0, 0)) (heap_alloc_new w _)
  · intro u hu; simp at hu; subst hu; rfl
  · unfold maxLen; omega
  · omega
  · simp; omega
  · intro v' w' hown' hgr _
    have hlt := ho2.lt
    have hal := World.grownBy_alloc w (.cells #[.int .i64 (y : Nat)] 3) tv.ownBlock
    refine h v' w' (by rw [ints_snoc]; exact hown') ⟨hgr.os.trans hal.os, hgr.tape.trans hal.tape, hgr.output.trans hal.output, Nat.le_trans hal.size hgr.size, fun k hk hne => (hgr.block k (Nat.lt_of_lt_of_le hk hal.size) hne).trans (hal.block k hk hne)⟩ ?_
    exact ((Below.refl base w).alloc hbase _).grown hgr (by simp; omega) (fun r hr => (hlt r hr).1)
theorem wpList_append_rowG {w : World} {ops : Array Oper} {rest : List Oper} {o : Oper} {a : Act} {Q : Exit → Act → World → Prop} (hgd : o.guard = none) (s x : Operand)
    (ho : o.op = .call { callee := .builtin .append, args := #[s, x], argTypes := #[25, 25] }) {base k C g c X : Nat} {tv : Value} {G Cp : Nat → Nat} {F : Nat → Nat → Nat} (hs : a.eval s = tv)
    (hx : a.eval x = .slice (some ⟨X, 0, none⟩) 1 1) (hX : w.heap[X]? = some (.cells #[.slice (some ⟨g, 0, none⟩) C c] 31 (0, 0))) (hA : MatA w base tv k C G Cp F) (hrow : Row w g C (F k)) (hg : base ≤ g) (hc : C ≤ c) (hne : ∀ i, i < k → G i ≠ g) (hk : k ≤ 1000) (hbase : base ≤ w.heap.size)
    (h : ∀ v' w', MatA w' base v' (k + 1) C (fun i => if i = k then g else G i) (fun i => if i = k then c else Cp i) F → w.grownBy w' tv.ownBlock → wpList Try.prog ops Q rest (a.put o.dst v') w') :
    wpList Try.prog ops Q (o :: rest) a w := by
  obtain ⟨i0, hi0, hz0, hz1, hz2⟩ := info_parts infoRow6
  refine wpList_append_own _ hgd s x 25 ho base 31 i0 (.slice none 0 0) 1 24 Try.underlying25 hi0 hz0 hz1 hz2 rfl (by decide) tv k _ hs hA.own ⟨X, 0, none⟩ 1 1 [.slice (some ⟨g, 0, none⟩) C c] hx rfl ?_ ?_ ?_ ?_ hbase ?_
  · exact World.news_of_block (cs := #[.slice (some ⟨g, 0, none⟩) C c]) (fr := (0, 0)) hX
  · intro u hu; simp at hu; subst hu; rfl
  · unfold maxLen; omega
  · omega
  · intro v' w' hown hgr _
    exact h v' w' (hA.push hrow hg hc hne hgr hown) hgr
theorem own_apart {w : World} {b1 b2 n1 n2 s1 s2 : Nat} {e1 e2 : TypeId} {v1 v2 : Value} {l1 l2 : List Value} (h1 : w.ownsRow b1 e1 s1 v1 n1 l1) (h2 : w.ownsRow b2 e2 s2 v2 n2 l2) (he : e1 ≠ e2) : v1.ownBlock = none ∨ v1.ownBlock ≠ v2.ownBlock := by
  rcases h1.2 with ⟨rfl, _⟩ | ⟨g, cap, cur, rfl, _, hg, _⟩
  · exact .inl rfl
  · refine .inr fun e => ?_
    rcases h2.2 with ⟨rfl, _⟩ | ⟨g2, cap2, cur2, rfl, _, hg2, _⟩
    · simp [Value.ownBlock] at e
    · simp [Value.ownBlock] at e
      subst e
      rw [hg] at hg2
      injection hg2 with hg2
      injection hg2 with _ hg2 _
      exact he hg2
end Go.Proofs.Ytfkepkdfpjaniaa
namespace Go.Proofs.Ytfkepkdfpjaniaa
open Go.RowKit
set_option linter.unusedVariables false
set_option maxRecDepth 100000

/-- a row of the call's own that is not empty, as a row known whole -/
theorem row_own {w : World} {base n : Nat} {v : Value} {F : Nat → Nat} (h : w.ownsRow base 22 1 v n (vals (M.tabM n F))) (hn : 0 < n) : ∃ g c, v = .slice (some ⟨g, 0, none⟩) n c ∧ base ≤ g ∧ n ≤ c ∧ Row w g n F := by
  obtain ⟨g, c, rfl, hg, _⟩ := h.form hn
  obtain ⟨_, h2, _, h4⟩ := row_of_owns (zs := M.tabM n F) h
  exact ⟨g, c, rfl, hg, h2, h4.congr fun j hj => M.tabM_at F hj⟩

/-- append(row, y) at one operation -/
theorem wp_append_num6 {w : World} {o : Oper} {a : Act} {K : Act → World → Prop} {Q : Exit → Act → World → Prop} (s x : Operand)
    (ho : o.op = .call { callee := .builtin .append, args := #[s, x], argTypes := #[31, 31] }) {base n y X : Nat} {tv : Value} {l : List Nat} (hs : a.eval s = tv)
    (hx : a.eval x = .slice (some ⟨X, 0, none⟩) 1 1) (hX : w.heap[X]? = some (.cells #[.int .u64 (y : Nat)] 22 (0, 0))) (hown : w.ownsRow base 22 1 tv n (vals l)) (hn : n ≤ 1000) (hbase : base ≤ w.heap.size)
    (h : ∀ v' w', w'.ownsRow base 22 1 v' (n + 1) (vals (l ++ [y])) → Below base w w' → K (a.put o.dst v') w') : o.wp Try.prog a w K Q := by
  obtain ⟨i0, hi0, hz0, hz1, hz2⟩ := info_parts infoU64
  refine wp_append_own w s x 31 ho base 22 i0 (.int .u64 0) 1 8 Try.underlying31 hi0 hz0 hz1 hz2 rfl (by decide) tv n _ hs hown ⟨X, 0, none⟩ 1 1 [.int .u64 (y : Nat)] hx rfl ?_ ?_ ?_ ?_ hbase ?_
  · exact World.news_of_block (cs := #[.int .u64 (y : Nat)]) (fr := (0, 0)) hX
  · intro u hu; simp at hu; subst hu; rfl
  · unfold maxLen; omega
  · omega
  · intro v' w' hown' hgr _
    have hlt := hown.lt
    refine h v' w' ?_ ((Below.refl base w).grown hgr hbase (fun r hr => (hlt r hr).1))
    rw [show vals (l ++ [y]) = vals l ++ [.int .u64 (y : Nat)] by simp [vals]]
    exact hown'

end Go.Proofs.Ytfkepkdfpjaniaa
namespace Go.Proofs.Ytfkepkdfpjaniaa
open Go.RowKit
set_option linter.unusedVariables false
set_option maxRecDepth 100000

theorem zeroCells_u64 (k : Nat) : Builtin.zeroCells (Value.int .u64 0).cells k = (List.replicate k (Value.int .u64 0)).toArray := by
  apply Array.ext
  · simp [Builtin.zeroCells, Value.cells]
  · intro i h1 h2
    simp [Builtin.zeroCells, Value.cells, Nat.mod_one]

theorem run_append_zeros (w : World) (base n k : Nat) (v : Value) (xs : List Value) (ty : TypeId) (hown : w.ownsRow base 22 1 v n xs) (h0 : 0 < k) (hk : n + k ≤ 2000) (hbase : base ≤ w.heap.size) :
    ∃ v' w', (Builtin.append_ #[31, 3] ty #[v, .int .i64 (k : Nat)]).run Try.prog w = .ok v' w' ∧ w'.ownsRow base 22 1 v' (n + k) (xs ++ List.replicate k (.int .u64 0)) ∧ w.grownBy w' v.ownBlock := by
  obtain ⟨i0, hi0, hz0, hz1, hz2⟩ := info_parts infoU64
  have hlen : (xs ++ List.replicate k (Value.int .u64 0)).length = (n + k) * 1 := by rw [List.length_append, hown.1, List.length_replicate]; omega
  have grown : ∀ (old : Nat) (row : Option Nat),
      (w.drew.alloc (.cells (xs.toArray ++ Builtin.zeroCells (Value.int .u64 0).cells k ++ Builtin.zeroCells (Value.int .u64 0).cells (grownCap w (n + k) old 22 - (n + k))) 22)).ownsRow base 22 1
        (.slice (some ⟨w.heap.size, 0, none⟩) (n + k) (grownCap w (n + k) old 22)) (n + k) (xs ++ List.replicate k (.int .u64 0)) ∧
      w.grownBy (w.drew.alloc (.cells (xs.toArray ++ Builtin.zeroCells (Value.int .u64 0).cells k ++ Builtin.zeroCells (Value.int .u64 0).cells (grownCap w (n + k) old 22 - (n + k))) 22)) row := by
    intro old row
    have hge := grownCap_ge w (n + k) old 22
    have hcm : grownCap w (n + k) old 22 ≤ maxLen := grownCap_le_maxLen w (n + k) old 22 (by unfold maxLen; omega)
    rw [zeroCells_u64, zeroCells_u64]
    refine ⟨⟨hlen, .inr ⟨w.heap.size, _, _, rfl, hbase, heap_alloc_new w.drew _, hge, hcm, ?_, ?_⟩⟩, ⟨rfl, rfl, rfl, by simp, fun j hj _ => Below.heap_alloc w.drew _ j hj⟩⟩
    · simp only [Array.size_append, List.size_toArray, List.length_replicate, hown.1]
      omega
    · simp only [Array.toList_append, List.append_assoc]
      rw [← List.append_assoc, ← hlen]
      exact List.take_left
  rcases hown.2 with ⟨rfl, rfl⟩ | ⟨g, cap, cur, rfl, hbg, hg, hnc, hcm, hcs, htake⟩
  · have hx : xs = [] := List.eq_nil_of_length_eq_zero (by simpa using hown.1)
    subst hx
    have hr := Lib.run_append_grow_zeros (P := Try.prog) w 31 3 ty 22 i0 (.int .u64 0) .i64 .i64 Try.underlying31 Try.underlying3 hi0 hz0 none 0 0 [] (run_firstCells_none w.drew i0.size 0 0 0) k h0 (by omega) (by omega) (by omega) (by rw [hz2]; omega)
      (by rw [hz2]; exact growslice_fits (by omega) (by omega))
    exact ⟨_, _, hr, (grown 0 none).1, (grown 0 _).2⟩
  · by_cases hroom : n + k ≤ cap
    · have hw : IntKind.i64.wrap (k : Int) = k := by rw [IntKind.wrap_i64]; omega
      have h48i : ¬ (281474976710656 < (k : Int) * (i0.bytes : Int)) := by rw [hz2]; omega
      have hneg : ¬ ((k : Int) < 0) := by omega
      have hk0 : k ≠ 0 := by omega
      have hst := run_storeCells_at Try.prog g n 22 (List.replicate k (Value.int .u64 0)) 0 cur w hg (by rw [List.length_replicate, hcs]; omega) (by intro v hv; rw [List.eq_of_mem_replicate hv]; rfl)
      simp only [Nat.add_zero] at hst
      have hzc := zeroCells_u64 k
      refine ⟨.slice (some ⟨g, 0, none⟩) (n + k) cap, w.setRow g (cur.toList.take n ++ List.replicate k (Value.int .u64 0) ++ cur.toList.drop (n + (List.replicate k (Value.int .u64 0)).length)).toArray, ?_, ⟨hlen, .inr ⟨g, cap, _, rfl, hbg, setRow_heap w g cur _ 22 _ hg, hroom, hcm, ?_, ?_⟩⟩, ⟨rfl, rfl, rfl, by simp, fun j _ hj => setRow_other w g j _ (fun e => hj (by simp [Value.ownBlock, e]))⟩⟩
      · simp [Builtin.append_, run_underlying (P := Try.prog) Try.underlying31, run_underlying (P := Try.prog) Try.underlying3, sizeOf, typeInfo, zeroValue, hi0, hz0, hz1, asInt, asIntOf, hw, hneg, hk0, h48i, hroom, Addr.add_lit, hzc, hst]
      · simp only [List.size_toArray, List.length_append, List.length_take, List.length_drop, Array.length_toList, List.length_replicate]
        omega
      · rw [Nat.mul_one] at htake hlen
        rw [htake, Nat.mul_one, ← hlen]
        exact List.take_left
    · have holds : ∀ j u, xs[j]? = some u → w.cell? ((⟨g, 0, none⟩ : Addr).add j) = some u := hown.cells (g := g) rfl
      have hold := run_firstCells_some (P := Try.prog) w.drew i0.size n ⟨g, 0, none⟩ n cap xs (by rw [hz1]; exact hown.1) holds
      have hr := Lib.run_append_grow_zeros (P := Try.prog) w 31 3 ty 22 i0 (.int .u64 0) .i64 .i64 Try.underlying31 Try.underlying3 hi0 hz0 (some ⟨g, 0, none⟩) n cap xs hold k h0 (by omega) (by omega) (by omega) (by rw [hz2]; omega)
        (by rw [hz2]; exact growslice_fits (by omega) (by omega))
      exact ⟨_, _, hr, (grown cap none).1, (grown cap _).2⟩
theorem wpList_append_zeros6 {w : World} {ops : Array Oper} {rest : List Oper} {o : Oper} {a : Act} {Q : Exit → Act → World → Prop} (hgd : o.guard = none) (s x : Operand)
    (ho : o.op = .call { callee := .builtin .append, args := #[s, x], argTypes := #[31, 3] }) {base n k : Nat} {v : Value} {l : List Nat} (hs : a.eval s = v) (hx : a.eval x = .int .i64 (k : Nat))
    (hown : w.ownsRow base 22 1 v n (vals l)) (h0 : 0 < k) (hk : n + k ≤ 2000) (hbase : base ≤ w.heap.size)
    (h : ∀ v' w', w'.ownsRow base 22 1 v' (n + k) (vals (l ++ List.replicate k 0)) → Below base w w' → wpList Try.prog ops Q rest (a.put o.dst v') w') : wpList Try.prog ops Q (o :: rest) a w := by
  refine wpList_plain hgd fun K' hK => ?_
  obtain ⟨v', w', hr, h1, h2⟩ := run_append_zeros w base n k v (vals l) o.type hown h0 hk hbase
  have hlt := hown.lt
  unfold Oper.wp execOp
  simp only [ho, resolve, invoke, builtin, Sem.run_bind, Sem.run_pure, Result.andThen_ok, List.map_toArray, List.map_cons, List.map_nil, hs, hx, hr]
  refine hK _ _ (h v' w' ?_ ((Below.refl base w).grown h2 hbase (fun r hr => (hlt r hr).1)))
  rw [show vals (l ++ List.replicate k 0) = vals l ++ List.replicate k (.int .u64 0) by simp [vals]]
  exact h1

end Go.Proofs.Ytfkepkdfpjaniaa
