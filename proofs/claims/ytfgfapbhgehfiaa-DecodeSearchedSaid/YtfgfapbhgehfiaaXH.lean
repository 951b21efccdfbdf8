/-
  L1, L2, MatA, Mr16, Mr17, Mr18, Rmul (joined).
-/
import Derived.Test.YtfgfapbhgehfiaaXG
namespace Go.Proofs.Ytfgfapbhgehfiaa
open Go.RowKit
set_option linter.unusedVariables false
set_option maxRecDepth 100000

theorem mat2 (w : World) (a b c d : Nat) (ha : a < 65537) (hb : b < 65537) (hc : c < 65537) (hd : d < 65537) :
    Mat (((w.alloc (.cells #[.int .u64 a, .int .u64 b] 22)).alloc (.cells #[.int .u64 c, .int .u64 d] 22)).alloc (.cells #[.slice (some ⟨w.heap.size, 0, none⟩) 2 2, .slice (some ⟨w.heap.size + 1, 0, none⟩) 2 2] 31))
      (.slice (some ⟨w.heap.size + 1 + 1, 0, none⟩) 2 2) [[a, b], [c, d]] := by
  have h1 := nums2 w a b (by omega) (by omega)
  have h2 := nums2 (w.alloc (.cells #[.int .u64 a, .int .u64 b] 22)) c d (by omega) (by omega)
  have h3 := h1.below (balloc _ (.cells #[.int .u64 c, .int .u64 d] 22))
  have h4 := h3.below (balloc _ (.cells #[.slice (some ⟨w.heap.size, 0, none⟩) 2 2, .slice (some ⟨w.heap.size + 1, 0, none⟩) 2 2] 31))
  have h5 := h2.below (balloc _ (.cells #[.slice (some ⟨w.heap.size, 0, none⟩) 2 2, .slice (some ⟨w.heap.size + 1, 0, none⟩) 2 2] 31))
  rw [World.size_alloc] at h5
  have hh : (((w.alloc (.cells #[.int .u64 a, .int .u64 b] 22)).alloc (.cells #[.int .u64 c, .int .u64 d] 22)).alloc (.cells #[.slice (some ⟨w.heap.size, 0, none⟩) 2 2, .slice (some ⟨w.heap.size + 1, 0, none⟩) 2 2] 31)).heap[w.heap.size + 1 + 1]? = some (.cells #[.slice (some ⟨w.heap.size, 0, none⟩) 2 2, .slice (some ⟨w.heap.size + 1, 0, none⟩) 2 2] 31 (0, 0)) := by
    have := heap_alloc_new ((w.alloc (.cells #[.int .u64 a, .int .u64 b] 22)).alloc (.cells #[.int .u64 c, .int .u64 d] 22)) (.cells #[.slice (some ⟨w.heap.size, 0, none⟩) 2 2, .slice (some ⟨w.heap.size + 1, 0, none⟩) 2 2] 31)
    rw [World.size_alloc, World.size_alloc] at this
    exact this
  refine ⟨by simp, _, 2, rfl, by simp, fun _ => ⟨w.heap.size + 1 + 1, 0, rfl, lt_of_block hh, fun i hi => ?_⟩⟩
  rw [Nat.zero_add, cell_of_row _ _ i _ _ (0, 0) hh]
  match i, hi with
  | 0, _ => exact ⟨_, rfl, h4⟩
  | 1, _ => exact ⟨_, rfl, h5⟩

end Go.Proofs.Ytfgfapbhgehfiaa
namespace Go.Proofs.Ytfgfapbhgehfiaa
open Go.RowKit
set_option linter.unusedVariables false
set_option maxRecDepth 100000

namespace M
def frms (p : Nat) (ms : Nat → List (List Nat)) : Nat → Int
  | 0 => 0
  | k + 1 => if frms p ms k = 0 then frm p (ms k) else frms p ms k
theorem frms_stop {p : Nat} {ms : Nat → List (List Nat)} {k : Nat} (h : frms p ms k = 0) (hk : frm p (ms k) ≠ 0) : ∀ n, k < n → frms p ms n = frm p (ms k)
  | 0, hn => absurd hn (by omega)
  | n + 1, hn => by
    unfold frms
    by_cases e : k = n
    · subst e; rw [if_pos h]
    · have := frms_stop h hk n (by omega)
      rw [this, if_neg hk]
theorem frms_next {p : Nat} {ms : Nat → List (List Nat)} {k : Nat} (h : frms p ms k = 0) (hk : frm p (ms k) = 0) : frms p ms (k + 1) = 0 := by unfold frms; rw [if_pos h, hk]
def chkl (p : Nat) (ms : Nat → List (List Nat)) (n : Nat) : Int := if isP p = true then frms p ms n else 2
end M

end Go.Proofs.Ytfgfapbhgehfiaa
namespace Go.Proofs.Ytfgfapbhgehfiaa
open Go.RowKit
set_option linter.unusedVariables false
set_option maxRecDepth 100000

def slices (C : Nat) (G Cp : Nat → Nat) (k : Nat) : List Value := (List.range k).map fun i => .slice (some ⟨G i, 0, none⟩) C (Cp i)
theorem slices_len (C : Nat) (G Cp : Nat → Nat) (k : Nat) : (slices C G Cp k).length = k := by simp [slices]
theorem slices_get {C : Nat} {G Cp : Nat → Nat} {k i : Nat} (h : i < k) : (slices C G Cp k)[i]? = some (.slice (some ⟨G i, 0, none⟩) C (Cp i)) := by simp [slices, h]
theorem slices_succ (C : Nat) (G Cp : Nat → Nat) (k g c : Nat) : slices C (fun i => if i = k then g else G i) (fun i => if i = k then c else Cp i) (k + 1) = slices C G Cp k ++ [.slice (some ⟨g, 0, none⟩) C c] := by
  unfold slices
  rw [List.range_succ, List.map_append]
  congr 1
  · apply List.map_congr_left
    intro i hi
    have : i ≠ k := by have := List.mem_range.1 hi; omega
    simp [this]
  · simp

structure MatA (w : World) (base : Nat) (tv : Value) (k C : Nat) (G Cp : Nat → Nat) (F : Nat → Nat → Nat) : Prop where
  own : w.ownsRow base 31 1 tv k (slices C G Cp k)
  row : ∀ i, i < k → Row w (G i) C (F i)
  baseG : ∀ i, i < k → base ≤ G i ∧ C ≤ Cp i
  inj : ∀ i j, i < k → j < k → G i = G j → i = j
section
variable {w w' : World} {base k C : Nat} {tv : Value} {G Cp : Nat → Nat} {F F' : Nat → Nat → Nat}
theorem MatA.start (w : World) (base C : Nat) (F : Nat → Nat → Nat) : MatA w base (.slice none 0 0) 0 C (fun _ => 0) (fun _ => 0) F :=
  ⟨World.ownsRow_nil _ _ _ _, fun i hi => absurd hi (by omega), fun i hi => absurd hi (by omega), fun i j hi => absurd hi (by omega)⟩
theorem MatA.form (h : MatA w base tv k C G Cp F) : ∃ A cap, tv = .slice A k cap := by
  rcases h.own.2 with ⟨rfl, rfl⟩ | ⟨g, cap, cur, rfl, _⟩
  · exact ⟨none, 0, rfl⟩
  · exact ⟨_, _, rfl⟩
theorem MatA.ne (h : MatA w base tv k C G Cp F) {i : Nat} (hi : i < k) : tv.ownBlock ≠ some (G i) := by
  obtain ⟨cs, h1, _⟩ := h.row i hi
  exact own_ne h.own h1 (by decide)
/-- no block of the matrix has turned -/
theorem MatA.below (h : MatA w base tv k C G Cp F) {b : Nat} (hb : Below b w w') (hw : w.heap.size ≤ b) : MatA w' base tv k C G Cp F := by
  refine ⟨⟨h.own.1, ?_⟩, fun i hi => (h.row i hi).same (hb.block _ (by have := (h.row i hi).lt; omega)), h.baseG, h.inj⟩
  rcases h.own.2 with h2 | ⟨g, c, cur, hv, hg, hh, r⟩
  · exact .inl h2
  · exact .inr ⟨g, c, cur, hv, hg, (hb.block g (by have := lt_of_block hh; omega)).trans hh, r⟩
theorem MatA.mat (h : MatA w base tv k C G Cp F) (hk : k ≤ 1000) (hC : C ≤ 1000) (hF : ∀ i, i < k → ∀ j, j < C → F i j < 18446744073709551616) : Mat w tv (M.tabMM k C F) := by
  refine ⟨by rw [M.tabMM_len]; omega, ?_⟩
  rcases h.own.2 with ⟨rfl, rfl⟩ | ⟨g, cap, cur, rfl, hg, hh, hc, _⟩
  · exact ⟨none, 0, rfl, by simp [M.tabMM], fun h => absurd h (by simp [M.tabMM])⟩
  · refine ⟨_, cap, by rw [M.tabMM_len], by rw [M.tabMM_len]; exact hc, fun _ => ⟨g, 0, rfl, lt_of_block hh, fun i hi => ?_⟩⟩
    rw [M.tabMM_len] at hi
    have hcell := h.own.cells (g := g) rfl i _ (slices_get hi)
    rw [Addr.add_lit] at hcell
    rw [M.tabMM_at C F hi]
    exact ⟨_, hcell, (h.row i hi).nums (Nat.le_refl _) (h.baseG i hi).2 (by omega) (hF i hi)⟩
theorem MatA.done (h : MatA w base tv k C G Cp F) (hk : 0 < k) : ∃ B cap, tv = .slice (some ⟨B, 0, none⟩) k cap ∧ k ≤ cap ∧ MatO w base B k C G Cp F := by
  rcases h.own.2 with ⟨_, h0⟩ | ⟨g, cap, cur, hv, hg, hh, hc, hm, hsz, hx⟩
  · omega
  · refine ⟨g, cap, hv, hc, hg, ⟨cur, hh, fun i hi => ?_⟩, h.row, h.baseG, h.inj⟩
    have e : cur[i]? = (cur.toList.take (k * 1))[i]? := by rw [List.getElem?_take, if_pos (by omega)]; simp
    rw [e, hx]
    exact slices_get hi
theorem MatA.push (h : MatA w base tv k C G Cp F) {g c : Nat} {v' : Value} (hrow : Row w g C (F k)) (hg : base ≤ g) (hc : C ≤ c) (hne : ∀ i, i < k → G i ≠ g) (hgr : w.grownBy w' tv.ownBlock)
    (hown : w'.ownsRow base 31 1 v' (k + 1) (slices C G Cp k ++ [.slice (some ⟨g, 0, none⟩) C c])) : MatA w' base v' (k + 1) C (fun i => if i = k then g else G i) (fun i => if i = k then c else Cp i) F := by
  have hgo : tv.ownBlock ≠ some g := by
    obtain ⟨cs, h1, _⟩ := hrow
    exact own_ne h.own h1 (by decide)
  refine ⟨by rw [slices_succ]; exact hown, fun i hi => ?_, fun i hi => ?_, fun i j hi hj e => ?_⟩
  · by_cases e : i = k
    · subst e; simp only [if_true]; exact hrow.grown hgr (Ne.symm hgo)
    · simp only [if_neg e]; exact (h.row i (by omega)).grown hgr (Ne.symm (h.ne (by omega)))
  · by_cases e : i = k
    · simp only [if_pos e]; exact ⟨hg, hc⟩
    · simp only [if_neg e]; exact h.baseG i (by omega)
  · by_cases e1 : i = k <;> by_cases e2 : j = k
    · omega
    · simp only [if_pos e1, if_neg e2] at e; exact absurd e.symm (hne j (by omega))
    · simp only [if_neg e1, if_pos e2] at e; exact absurd e (hne i (by omega))
    · simp only [if_neg e1, if_neg e2] at e; exact h.inj i j (by omega) (by omega) e
end

/-- append(out, row): row lies in a block g of its own; the world before the one row was laid into a block is w -/
theorem wpList_append_row {w : World} {ops : Array Oper} {rest : List Oper} {o : Oper} {a : Act} {Q : Exit → Act → World → Prop} (hgd : o.guard = none) (s x : Operand)
    (ho : o.op = .call { callee := .builtin .append, args := #[s, x], argTypes := #[68, 68] }) {base k C g c : Nat} {tv : Value} {G Cp : Nat → Nat} {F : Nat → Nat → Nat} (hs : a.eval s = tv)
    (hx : a.eval x = .slice (some ⟨w.heap.size, 0, none⟩) 1 1) (hA : MatA w base tv k C G Cp F) (hrow : Row w g C (F k)) (hg : base ≤ g) (hc : C ≤ c) (hne : ∀ i, i < k → G i ≠ g) (hk : k ≤ 1000) (hbase : base ≤ w.heap.size)
    (h : ∀ v' w', MatA w' base v' (k + 1) C (fun i => if i = k then g else G i) (fun i => if i = k then c else Cp i) F → Below base w w' → wpList Try.prog ops Q rest (a.put o.dst v') w') :
    wpList Try.prog ops Q (o :: rest) a (w.alloc (.cells #[.slice (some ⟨g, 0, none⟩) C c] 31)) := by
  obtain ⟨i0, hi0, hz0, hz1, hz2⟩ := info_parts infoRow
  have hA2 := hA.below (Below.refl w.heap.size w |>.alloc (Nat.le_refl _) (.cells #[.slice (some ⟨g, 0, none⟩) C c] 31)) (Nat.le_refl _)
  have hrow2 := hrow.alloc (.cells #[.slice (some ⟨g, 0, none⟩) C c] 31)
  refine wpList_append_own _ hgd s x 68 ho base 31 i0 (.slice none 0 0) 1 24 Try.underlying68 hi0 hz0 hz1 hz2 rfl (by decide) tv k _ hs hA2.own ⟨w.heap.size, 0, none⟩ 1 1 [.slice (some ⟨g, 0, none⟩) C c] hx rfl ?_ ?_ ?_ ?_ ?_ ?_
  · exact World.news_of_block (cs := #[.slice (some ⟨g, 0, none⟩) C c]) (fr := (0, 0)) (heap_alloc_new w _)
  · intro u hu; simp at hu; subst hu; rfl
  · unfold maxLen; omega
  · omega
  · simp; omega
  · intro v' w' hown hgr _
    have hlt := hA2.own.lt
    refine h v' w' (hA2.push hrow2 hg hc hne hgr hown) ?_
    exact ((Below.refl base w).alloc hbase _).grown hgr (by simp; omega) (fun r hr => (hlt r hr).1)

theorem own_keep {w w' : World} {base : Nat} {e : TypeId} {size : Nat} {v : Value} {n : Nat} {xs : List Value} (h : w.ownsRow base e size v n xs) (hb : Below w.heap.size w w') : w'.ownsRow base e size v n xs := by
  obtain ⟨h1, h2⟩ := h
  refine ⟨h1, ?_⟩
  rcases h2 with h2 | ⟨g, cap, cur, hv, hg, hh, r⟩
  · exact .inl h2
  · exact .inr ⟨g, cap, cur, hv, hg, (hb.block g (Array.getElem?_eq_some_iff.1 hh).1).trans hh, r⟩
/-- append(out, y), y a number: the world before y was laid into a block is w -/
theorem wpList_append_num {w : World} {ops : Array Oper} {rest : List Oper} {o : Oper} {a : Act} {Q : Exit → Act → World → Prop} (hgd : o.guard = none) (s x : Operand)
    (ho : o.op = .call { callee := .builtin .append, args := #[s, x], argTypes := #[31, 31] }) {base n y : Nat} {tv : Value} {l : List Nat} (hs : a.eval s = tv)
    (hx : a.eval x = .slice (some ⟨w.heap.size, 0, none⟩) 1 1) (hown : w.ownsRow base 22 1 tv n (vals l)) (hn : n ≤ 1000) (hbase : base ≤ w.heap.size)
    (h : ∀ v' w', w'.ownsRow base 22 1 v' (n + 1) (vals (l ++ [y])) → Below base w w' → wpList Try.prog ops Q rest (a.put o.dst v') w') :
    wpList Try.prog ops Q (o :: rest) a (w.alloc (.cells #[.int .u64 (y : Nat)] 22)) := by
  obtain ⟨i0, hi0, hz0, hz1, hz2⟩ := info_parts infoU64
  have ho2 := hown.alloc (.cells #[.int .u64 (y : Nat)] 22)
  refine wpList_append_own _ hgd s x 31 ho base 22 i0 (.int .u64 0) 1 8 Try.underlying31 hi0 hz0 hz1 hz2 rfl (by decide) tv n _ hs ho2 ⟨w.heap.size, 0, none⟩ 1 1 [.int .u64 (y : Nat)] hx rfl ?_ ?_ ?_ ?_ ?_ ?_
  · exact World.news_of_block (cs := #[.int .u64 (y : Nat)]) (fr := (0, 0)) (heap_alloc_new w _)
  · intro u hu; simp at hu; subst hu; rfl
  · unfold maxLen; omega
  · omega
  · simp; omega
  · intro v' w' hown' hgr _
    have hlt := ho2.lt
    refine h v' w' (by rw [vals_app]; exact hown') ?_
    exact ((Below.refl base w).alloc hbase _).grown hgr (by simp; omega) (fun r hr => (hlt r hr).1)
/-- append(out, y), y an int -/
theorem wpList_append_int {w : World} {ops : Array Oper} {rest : List Oper} {o : Oper} {a : Act} {Q : Exit → Act → World → Prop} (hgd : o.guard = none) (s x : Operand)
    (ho : o.op = .call { callee := .builtin .append, args := #[s, x], argTypes := #[32, 32] }) {base n y : Nat} {tv : Value} {l : List Nat} (hs : a.eval s = tv)
    (hx : a.eval x = .slice (some ⟨w.heap.size, 0, none⟩) 1 1) (hown : w.ownsRow base 3 1 tv n (ints l)) (hn : n ≤ 1000) (hbase : base ≤ w.heap.size)
    (h : ∀ v' w', w'.ownsRow base 3 1 v' (n + 1) (ints (l ++ [y])) → w.grownBy w' tv.ownBlock → Below base w w' → wpList Try.prog ops Q rest (a.put o.dst v') w') :
    wpList Try.prog ops Q (o :: rest) a (w.alloc (.cells #[.int .i64 (y : Nat)] 3)) := by
  obtain ⟨i0, hi0, hz0, hz1, hz2⟩ := info_parts infoI64
  have ho2 := hown.alloc (.cells #[.int .i64 (y : Nat)] 3)
  refine wpList_append_own _ hgd s x 32 ho base 3 i0 (.int .i64 0) 1 8 Try.underlying32 hi0 hz0 hz1 hz2 rfl (by decide) tv n _ hs ho2 ⟨w.heap.size, 0, none⟩ 1 1 [.int .i64 (y : Nat)] hx rfl ?_ ?_ ?_ ?_ ?_ ?_
  · exact World.news_of_block (cs := #[.int .i64 (y : Nat)]) (fr := (0, 0)) (heap_alloc_new w _)
  · intro u hu; simp at hu; subst hu; rfl
  · unfold maxLen; omega
  · omega
  · simp; omega
  · intro v' w' hown' hgr _
    have hlt := ho2.lt
    have hal := World.grownBy_alloc w (.cells #[.int .i64 (y : Nat)] 3) tv.ownBlock
    refine h v' w' (by rw [ints_snoc]; exact hown') ⟨hgr.os.trans hal.os, hgr.tape.trans hal.tape, hgr.output.trans hal.output, Nat.le_trans hal.size hgr.size, fun k hk hne => (hgr.block k (Nat.lt_of_lt_of_le hk hal.size) hne).trans (hal.block k hk hne)⟩ ?_
    exact ((Below.refl base w).alloc hbase _).grown hgr (by simp; omega) (fun r hr => (hlt r hr).1)
end Go.Proofs.Ytfgfapbhgehfiaa
namespace Go.Proofs.Ytfgfapbhgehfiaa
open Go.RowKit
set_option linter.unusedVariables false
set_option maxRecDepth 100000

namespace M
/-- R rows of K numbers below p, of whatever size up to 64 -/
structure Rows (p : Nat) (m : List (List Nat)) (R K : Nat) : Prop where
  rows : m.length = R
  R64 : R ≤ 64
  K64 : K ≤ 64
  cols : ∀ i, i < R → (m.getD i []).length = K
  lt : ∀ i, i < R → within p (m.getD i []) = true
theorem Ok.all {p : Nat} {m : List (List Nat)} {R K : Nat} (h : Ok p m R K) : Rows p m R K := ⟨h.rows, h.R64, h.K64, h.cols, h.lt⟩
/-- the product of m and the column zs -/
def app (p : Nat) (m : List (List Nat)) (zs : List Nat) (i : Nat) : Nat := dotK (m.getD i []) zs (m.getD i []).length % p
end M

def ApplyEnd (w : World) (p R : Nat) (m : List (List Nat)) (zs : List Nat) (e : Ending) (w' : World) : Prop :=
  ∃ g cap, e = .returned (.tuple #[.slice (some ⟨g, 0, none⟩) R cap, .int .i64 0]) ∧ w.heap.size ≤ g ∧ R ≤ cap ∧ Row w' g R (M.app p m zs) ∧ Below w.heap.size w w'

theorem nums_apply {w : World} {p R g cap : Nat} {m : List (List Nat)} {zs : List Nat} (hp : 0 < p) (hp2 : p ≤ 65537) (hR : R ≤ 1000) (h : Row w g R (M.app p m zs)) (hc : R ≤ cap) : Nums w (.slice (some ⟨g, 0, none⟩) R cap) (M.tabM R (M.app p m zs)) :=
  h.nums (Nat.le_refl _) hc (by omega) fun j _ => by have : M.app p m zs j < p := Nat.mod_lt _ hp; omega

end Go.Proofs.Ytfgfapbhgehfiaa
namespace Go.Proofs.Ytfgfapbhgehfiaa
open Go.RowKit
set_option linter.unusedVariables false

namespace M
/-- the first n elements of column j -/
def col (m : List (List Nat)) (j n : Nat) : List Nat := tabM n fun i => el m i j
theorem col_succ (m : List (List Nat)) (j n : Nat) : col m j (n + 1) = col m j n ++ [el m n j] := by simp [col, tabM, List.range_succ]
theorem col_len (m : List (List Nat)) (j n : Nat) : (col m j n).length = n := tabM_len _ _
/-- the columns as rows -/
def tr (m : List (List Nat)) (R K : Nat) : List (List Nat) := tabMM K R fun j i => el m i j
theorem tr_row {m : List (List Nat)} {R K j : Nat} (h : j < K) : (tr m R K).getD j [] = col m j R := by unfold tr; rw [tabMM_at _ _ h]; rfl
theorem tr_rows {p : Nat} {m : List (List Nat)} {R K : Nat} (h : Ok p m R K) : Rows p (tr m R K) K R :=
  ⟨tabMM_len _ _ _, h.K64, h.R64, fun j hj => by rw [tr_row hj, col_len], fun j hj => by rw [tr_row hj]; exact within_tabM fun i hi => h.el_lt hi hj⟩
end M

/-- columns under construction -/
structure TrS (w : World) (base Bc K : Nat) (V : Nat → Value) (n : Nat → Nat) (m : List (List Nat)) : Prop where
  top : ∃ cs, w.heap[Bc]? = some (.cells cs 31 (0, 0)) ∧ cs.size = K ∧ ∀ j, j < K → cs[j]? = some (V j)
  own : ∀ j, j < K → w.ownsRow base 22 1 (V j) (n j) (vals (M.col m j (n j)))
  sep : ∀ i j, i < K → j < K → i ≠ j → (V i).ownBlock = none ∨ (V i).ownBlock ≠ (V j).ownBlock
theorem TrS.cell {w : World} {base Bc K : Nat} {V : Nat → Value} {n : Nat → Nat} {m : List (List Nat)} (h : TrS w base Bc K V n m) {j : Nat} (hj : j < K) : w.cell? ⟨Bc, j, none⟩ = some (V j) := by
  obtain ⟨cs, h1, _, h2⟩ := h.top; rw [cell_of_row w Bc j cs _ (0, 0) h1]; exact h2 j hj
theorem TrS.free {w : World} {base Bc K : Nat} {V : Nat → Value} {n : Nat → Nat} {m : List (List Nat)} (h : TrS w base Bc K V n m) (j : Nat) : w.frozen? ⟨Bc, j, none⟩ = false := by
  obtain ⟨cs, h1, _, h2⟩ := h.top; exact frozen_of_row w Bc j cs _ h1
theorem TrS.ne {w : World} {base Bc K : Nat} {V : Nat → Value} {n : Nat → Nat} {m : List (List Nat)} (h : TrS w base Bc K V n m) {j : Nat} (hj : j < K) : (V j).ownBlock ≠ some Bc := by
  obtain ⟨cs, h1, _, h2⟩ := h.top; exact own_ne (h.own j hj) h1 (by decide)
/-- one more number in column k -/
theorem TrS.push {w w' : World} {base Bc K : Nat} {V : Nat → Value} {n : Nat → Nat} {m : List (List Nat)} (h : TrS w base Bc K V n m) {k g c : Nat} (hk : k < K)
    (hown : w'.ownsRow base 22 1 (.slice (some ⟨g, 0, none⟩) (n k + 1) c) (n k + 1) (vals (M.col m k (n k + 1)))) (hgr : w.grownBy w' (V k).ownBlock) (hat : (V k).ownBlock = some g ∨ w.heap.size ≤ g) (hB : Bc < w.heap.size) :
    TrS (w'.setCell ⟨Bc, k, none⟩ (.slice (some ⟨g, 0, none⟩) (n k + 1) c)) base Bc K (fun j => if j = k then .slice (some ⟨g, 0, none⟩) (n k + 1) c else V j) (fun j => if j = k then n k + 1 else n j) m := by
  obtain ⟨cs, h1, h2, h3⟩ := h.top
  have h1' : w'.heap[Bc]? = some (.cells cs 31 (0, 0)) := (hgr.block Bc hB (Ne.symm (h.ne hk))).trans h1
  have hgB : g ≠ Bc := by
    intro e
    rcases hat with e2 | e2
    · exact h.ne hk (e2.trans (by rw [e]))
    · omega
  have hoth : ∀ j, j < K → j ≠ k → (V j).ownBlock = none ∨ (V j).ownBlock ≠ some g := fun j hj hjk => by
    rcases hat with e2 | e2
    · rw [← e2]; exact h.sep j k hj hk hjk
    · right
      intro e
      have := ((h.own j hj).lt g e).2
      omega
  refine ⟨⟨_, heap_setCell_same w' Bc k cs _ _ h1', by simpa using h2, fun j hj => ?_⟩, fun j hj => ?_, fun i j hi hj hij => ?_⟩
  · by_cases e : j = k
    · subst e; rw [Array.getElem?_setIfInBounds_self_of_lt (by omega)]; simp
    · rw [Array.getElem?_setIfInBounds_ne (Ne.symm e), h3 j hj]; simp [e]
  · by_cases e : j = k
    · subst e; simp only [if_true]; exact ownsRow_setCell_other hown (by simp [Value.ownBlock]; omega) _
    · simp only [if_neg e]; exact ownsRow_setCell_other ((h.own j hj).kept hgr (h.sep j k hj hk e)) (h.ne hj) _
  · by_cases e1 : i = k <;> by_cases e2 : j = k
    · omega
    · simp only [if_pos e1, if_neg e2]
      right
      rcases hoth j hj e2 with e | e
      · rw [e]; simp [Value.ownBlock]
      · intro e3; exact e e3.symm
    · simp only [if_neg e1, if_pos e2]
      exact hoth i hi e1
    · simp only [if_neg e1, if_neg e2]
      exact h.sep i j hi hj hij

end Go.Proofs.Ytfgfapbhgehfiaa
namespace Go.Proofs.Ytfgfapbhgehfiaa
open Go.RowKit
set_option linter.unusedVariables false

namespace M
theorem dotK_comm (l m : List Nat) : ∀ k, dotK l m k = dotK m l k
  | 0 => rfl
  | k + 1 => by rw [dotK, dotK, dotK_comm l m k, Nat.mul_comm]
/-- an element of the product of a and b, which has n rows -/
def mulF (p : Nat) (a b : List (List Nat)) (n : Nat) (i j : Nat) : Nat := dotK (a.getD i []) (col b j n) n % p
def mul (p : Nat) (a b : List (List Nat)) (R n K : Nat) : List (List Nat) := tabMM R K (mulF p a b n)
theorem mulF_app {p : Nat} {a b : List (List Nat)} {n K i j : Nat} (hj : j < K) : app p (tr b n K) (a.getD i []) j = mulF p a b n i j := by
  unfold app mulF
  rw [tr_row hj, col_len, dotK_comm]
theorem mulF_lt {p : Nat} (h : 0 < p) (a b : List (List Nat)) (n i j : Nat) : mulF p a b n i j < p := Nat.mod_lt _ h
end M

end Go.Proofs.Ytfgfapbhgehfiaa
namespace Go.Proofs.Ytfgfapbhgehfiaa
open Go.RowKit
set_option linter.unusedVariables false

/-- a row of the call's own that is not empty, as a row known whole -/
theorem row_own {w : World} {base n : Nat} {v : Value} {F : Nat → Nat} (h : w.ownsRow base 22 1 v n (vals (M.tabM n F))) (hn : 0 < n) : ∃ g c, v = .slice (some ⟨g, 0, none⟩) n c ∧ base ≤ g ∧ n ≤ c ∧ Row w g n F := by
  obtain ⟨g, c, rfl, hg, _⟩ := h.form hn
  obtain ⟨_, h2, _, h4⟩ := row_of_owns (zs := M.tabM n F) h
  exact ⟨g, c, rfl, hg, h2, h4.congr fun j hj => M.tabM_at F hj⟩
theorem tabM_succ (n : Nat) (F : Nat → Nat) : M.tabM (n + 1) F = M.tabM n F ++ [F n] := by simp [M.tabM, List.range_succ]

end Go.Proofs.Ytfgfapbhgehfiaa
