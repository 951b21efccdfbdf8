/-
  Pairs: a matrix under construction: rows that are appended one by one.
-/
import Derived.Test.YtglehjcohdjhoaaPr4
namespace Go.Proofs.Ytglehjcohdjhoaa
open Go.RowKit
set_option linter.unusedVariables false
set_option maxRecDepth 100000

def slices (C : Nat) (G Cp : Nat → Nat) (k : Nat) : List Value := (List.range k).map fun i => .slice (some ⟨G i, 0, none⟩) C (Cp i)
theorem slices_len (C : Nat) (G Cp : Nat → Nat) (k : Nat) : (slices C G Cp k).length = k := by simp [slices]
theorem slices_get {C : Nat} {G Cp : Nat → Nat} {k i : Nat} (h : i < k) : (slices C G Cp k)[i]? = some (.slice (some ⟨G i, 0, none⟩) C (Cp i)) := by simp [slices, h]
theorem slices_succ (C : Nat) (G Cp : Nat → Nat) (k g c : Nat) : slices C (fun i => if i = k then g else G i) (fun i => if i = k then c else Cp i) (k + 1) = slices C G Cp k ++ [.slice (some ⟨g, 0, none⟩) C c] := by
  unfold slices
  rw [List.range_succ, List.map_append]
  congr 1
  · apply List.map_congr_left
    intro i hi
    have : i ≠ k := by have := List.mem_range.1 hi; omega
    simp [this]
  · simp

structure MatA (w : World) (base : Nat) (tv : Value) (k C : Nat) (G Cp : Nat → Nat) (F : Nat → Nat → Nat) : Prop where
  own : w.ownsRow base 30 1 tv k (slices C G Cp k)
  row : ∀ i, i < k → Row w (G i) C (F i)
  baseG : ∀ i, i < k → base ≤ G i ∧ C ≤ Cp i
  inj : ∀ i j, i < k → j < k → G i = G j → i = j
section
variable {w w' : World} {base k C : Nat} {tv : Value} {G Cp : Nat → Nat} {F F' : Nat → Nat → Nat}
theorem MatA.start (w : World) (base C : Nat) (F : Nat → Nat → Nat) : MatA w base (.slice none 0 0) 0 C (fun _ => 0) (fun _ => 0) F :=
  ⟨World.ownsRow_nil _ _ _ _, fun i hi => absurd hi (by omega), fun i hi => absurd hi (by omega), fun i j hi => absurd hi (by omega)⟩
theorem MatA.form (h : MatA w base tv k C G Cp F) : ∃ A cap, tv = .slice A k cap := by
  rcases h.own.2 with ⟨rfl, rfl⟩ | ⟨g, cap, cur, rfl, _⟩
  · exact ⟨none, 0, rfl⟩
  · exact ⟨_, _, rfl⟩
theorem MatA.ne (h : MatA w base tv k C G Cp F) {i : Nat} (hi : i < k) : tv.ownBlock ≠ some (G i) := by
  obtain ⟨cs, h1, _⟩ := h.row i hi
  exact own_ne h.own h1 (by decide)
/-- no block of the matrix has turned -/
theorem MatA.below (h : MatA w base tv k C G Cp F) {b : Nat} (hb : Below b w w') (hw : w.heap.size ≤ b) : MatA w' base tv k C G Cp F := by
  refine ⟨⟨h.own.1, ?_⟩, fun i hi => (h.row i hi).same (hb.block _ (by have := (h.row i hi).lt; omega)), h.baseG, h.inj⟩
  rcases h.own.2 with h2 | ⟨g, c, cur, hv, hg, hh, r⟩
  · exact .inl h2
  · exact .inr ⟨g, c, cur, hv, hg, (hb.block g (by have := lt_of_block hh; omega)).trans hh, r⟩
theorem MatA.mat (h : MatA w base tv k C G Cp F) (hk : k ≤ 1000) (hC : C ≤ 1000) (hF : ∀ i, i < k → ∀ j, j < C → F i j < 18446744073709551616) : Mat w tv (M.tabMM k C F) := by
  refine ⟨by rw [M.tabMM_len]; omega, ?_⟩
  rcases h.own.2 with ⟨rfl, rfl⟩ | ⟨g, cap, cur, rfl, hg, hh, hc, _⟩
  · exact ⟨none, 0, rfl, by simp [M.tabMM], fun h => absurd h (by simp [M.tabMM])⟩
  · refine ⟨_, cap, by rw [M.tabMM_len], by rw [M.tabMM_len]; exact hc, fun _ => ⟨g, 0, rfl, lt_of_block hh, fun i hi => ?_⟩⟩
    rw [M.tabMM_len] at hi
    have hcell := h.own.cells (g := g) rfl i _ (slices_get hi)
    rw [Addr.add_lit] at hcell
    rw [M.tabMM_at C F hi]
    exact ⟨_, hcell, (h.row i hi).nums (Nat.le_refl _) (h.baseG i hi).2 (by omega) (hF i hi)⟩
theorem MatA.done (h : MatA w base tv k C G Cp F) (hk : 0 < k) : ∃ B cap, tv = .slice (some ⟨B, 0, none⟩) k cap ∧ k ≤ cap ∧ MatO w base B k C G Cp F := by
  rcases h.own.2 with ⟨_, h0⟩ | ⟨g, cap, cur, hv, hg, hh, hc, hm, hsz, hx⟩
  · omega
  · refine ⟨g, cap, hv, hc, hg, ⟨cur, hh, fun i hi => ?_⟩, h.row, h.baseG, h.inj⟩
    have e : cur[i]? = (cur.toList.take (k * 1))[i]? := by rw [List.getElem?_take, if_pos (by omega)]; simp
    rw [e, hx]
    exact slices_get hi
theorem MatA.push (h : MatA w base tv k C G Cp F) {g c : Nat} {v' : Value} (hrow : Row w g C (F k)) (hg : base ≤ g) (hc : C ≤ c) (hne : ∀ i, i < k → G i ≠ g) (hgr : w.grownBy w' tv.ownBlock)
    (hown : w'.ownsRow base 30 1 v' (k + 1) (slices C G Cp k ++ [.slice (some ⟨g, 0, none⟩) C c])) : MatA w' base v' (k + 1) C (fun i => if i = k then g else G i) (fun i => if i = k then c else Cp i) F := by
  have hgo : tv.ownBlock ≠ some g := by
    obtain ⟨cs, h1, _⟩ := hrow
    exact own_ne h.own h1 (by decide)
  refine ⟨by rw [slices_succ]; exact hown, fun i hi => ?_, fun i hi => ?_, fun i j hi hj e => ?_⟩
  · by_cases e : i = k
    · subst e; simp only [if_true]; exact hrow.grown hgr (Ne.symm hgo)
    · simp only [if_neg e]; exact (h.row i (by omega)).grown hgr (Ne.symm (h.ne (by omega)))
  · by_cases e : i = k
    · simp only [if_pos e]; exact ⟨hg, hc⟩
    · simp only [if_neg e]; exact h.baseG i (by omega)
  · by_cases e1 : i = k <;> by_cases e2 : j = k
    · omega
    · simp only [if_pos e1, if_neg e2] at e; exact absurd e.symm (hne j (by omega))
    · simp only [if_neg e1, if_pos e2] at e; exact absurd e (hne i (by omega))
    · simp only [if_neg e1, if_neg e2] at e; exact h.inj i j (by omega) (by omega) e
end

/-- append(out, row): row lies in a block g of its own; the world before the one row was laid into a block is w -/
theorem wpList_append_row {w : World} {ops : Array Oper} {rest : List Oper} {o : Oper} {a : Act} {Q : Exit → Act → World → Prop} (hgd : o.guard = none) (s x : Operand)
    (ho : o.op = .call { callee := .builtin .append, args := #[s, x], argTypes := #[23, 23] }) {base k C g c : Nat} {tv : Value} {G Cp : Nat → Nat} {F : Nat → Nat → Nat} (hs : a.eval s = tv)
    (hx : a.eval x = .slice (some ⟨w.heap.size, 0, none⟩) 1 1) (hA : MatA w base tv k C G Cp F) (hrow : Row w g C (F k)) (hg : base ≤ g) (hc : C ≤ c) (hne : ∀ i, i < k → G i ≠ g) (hk : k ≤ 1000) (hbase : base ≤ w.heap.size)
    (h : ∀ v' w', MatA w' base v' (k + 1) C (fun i => if i = k then g else G i) (fun i => if i = k then c else Cp i) F → Below base w w' → wpList Try.prog ops Q rest (a.put o.dst v') w') :
    wpList Try.prog ops Q (o :: rest) a (w.alloc (.cells #[.slice (some ⟨g, 0, none⟩) C c] 30)) := by
  obtain ⟨i0, hi0, hz0, hz1, hz2⟩ := info_parts infoRow6
  have hA2 := hA.below (Below.refl w.heap.size w |>.alloc (Nat.le_refl _) (.cells #[.slice (some ⟨g, 0, none⟩) C c] 30)) (Nat.le_refl _)
  have hrow2 := hrow.alloc (.cells #[.slice (some ⟨g, 0, none⟩) C c] 30)
  refine wpList_append_own _ hgd s x 23 ho base 30 i0 (.slice none 0 0) 1 24 Try.underlying23 hi0 hz0 hz1 hz2 rfl (by decide) tv k _ hs hA2.own ⟨w.heap.size, 0, none⟩ 1 1 [.slice (some ⟨g, 0, none⟩) C c] hx rfl ?_ ?_ ?_ ?_ ?_ ?_
  · exact World.news_of_block (cs := #[.slice (some ⟨g, 0, none⟩) C c]) (fr := (0, 0)) (heap_alloc_new w _)
  · intro u hu; simp at hu; subst hu; rfl
  · unfold maxLen; omega
  · omega
  · simp; omega
  · intro v' w' hown hgr _
    have hlt := hA2.own.lt
    refine h v' w' (hA2.push hrow2 hg hc hne hgr hown) ?_
    exact ((Below.refl base w).alloc hbase _).grown hgr (by simp; omega) (fun r hr => (hlt r hr).1)

theorem own_keep {w w' : World} {base : Nat} {e : TypeId} {size : Nat} {v : Value} {n : Nat} {xs : List Value} (h : w.ownsRow base e size v n xs) (hb : Below w.heap.size w w') : w'.ownsRow base e size v n xs := by
  obtain ⟨h1, h2⟩ := h
  refine ⟨h1, ?_⟩
  rcases h2 with h2 | ⟨g, cap, cur, hv, hg, hh, r⟩
  · exact .inl h2
  · exact .inr ⟨g, cap, cur, hv, hg, (hb.block g (Array.getElem?_eq_some_iff.1 hh).1).trans hh, r⟩
/-- append(out, y), y a number: the world before y was laid into a block is w -/
theorem wpList_append_num {w : World} {ops : Array Oper} {rest : List Oper} {o : Oper} {a : Act} {Q : Exit → Act → World → Prop} (hgd : o.guard = none) (s x : Operand)
    (ho : o.op = .call { callee := .builtin .append, args := #[s, x], argTypes := #[30, 30] }) {base n y : Nat} {tv : Value} {l : List Nat} (hs : a.eval s = tv)
    (hx : a.eval x = .slice (some ⟨w.heap.size, 0, none⟩) 1 1) (hown : w.ownsRow base 22 1 tv n (vals l)) (hn : n ≤ 1000) (hbase : base ≤ w.heap.size)
    (h : ∀ v' w', w'.ownsRow base 22 1 v' (n + 1) (vals (l ++ [y])) → Below base w w' → wpList Try.prog ops Q rest (a.put o.dst v') w') :
    wpList Try.prog ops Q (o :: rest) a (w.alloc (.cells #[.int .u64 (y : Nat)] 22)) := by
  obtain ⟨i0, hi0, hz0, hz1, hz2⟩ := info_parts infoU64
  have ho2 := hown.alloc (.cells #[.int .u64 (y : Nat)] 22)
  refine wpList_append_own _ hgd s x 30 ho base 22 i0 (.int .u64 0) 1 8 Try.underlying30 hi0 hz0 hz1 hz2 rfl (by decide) tv n _ hs ho2 ⟨w.heap.size, 0, none⟩ 1 1 [.int .u64 (y : Nat)] hx rfl ?_ ?_ ?_ ?_ ?_ ?_
  · exact World.news_of_block (cs := #[.int .u64 (y : Nat)]) (fr := (0, 0)) (heap_alloc_new w _)
  · intro u hu; simp at hu; subst hu; rfl
  · unfold maxLen; omega
  · omega
  · simp; omega
  · intro v' w' hown' hgr _
    have hlt := ho2.lt
    refine h v' w' (by rw [vals_app]; exact hown') ?_
    exact ((Below.refl base w).alloc hbase _).grown hgr (by simp; omega) (fun r hr => (hlt r hr).1)
theorem wpList_append_rowG {w : World} {ops : Array Oper} {rest : List Oper} {o : Oper} {a : Act} {Q : Exit → Act → World → Prop} (hgd : o.guard = none) (s x : Operand)
    (ho : o.op = .call { callee := .builtin .append, args := #[s, x], argTypes := #[23, 23] }) {base k C g c X : Nat} {tv : Value} {G Cp : Nat → Nat} {F : Nat → Nat → Nat} (hs : a.eval s = tv)
    (hx : a.eval x = .slice (some ⟨X, 0, none⟩) 1 1) (hX : w.heap[X]? = some (.cells #[.slice (some ⟨g, 0, none⟩) C c] 30 (0, 0))) (hA : MatA w base tv k C G Cp F) (hrow : Row w g C (F k)) (hg : base ≤ g) (hc : C ≤ c) (hne : ∀ i, i < k → G i ≠ g) (hk : k ≤ 1000) (hbase : base ≤ w.heap.size)
    (h : ∀ v' w', MatA w' base v' (k + 1) C (fun i => if i = k then g else G i) (fun i => if i = k then c else Cp i) F → w.grownBy w' tv.ownBlock → wpList Try.prog ops Q rest (a.put o.dst v') w') :
    wpList Try.prog ops Q (o :: rest) a w := by
  obtain ⟨i0, hi0, hz0, hz1, hz2⟩ := info_parts infoRow6
  refine wpList_append_own _ hgd s x 23 ho base 30 i0 (.slice none 0 0) 1 24 Try.underlying23 hi0 hz0 hz1 hz2 rfl (by decide) tv k _ hs hA.own ⟨X, 0, none⟩ 1 1 [.slice (some ⟨g, 0, none⟩) C c] hx rfl ?_ ?_ ?_ ?_ hbase ?_
  · exact World.news_of_block (cs := #[.slice (some ⟨g, 0, none⟩) C c]) (fr := (0, 0)) hX
  · intro u hu; simp at hu; subst hu; rfl
  · unfold maxLen; omega
  · omega
  · intro v' w' hown hgr _
    exact h v' w' (hA.push hrow hg hc hne hgr hown) hgr
theorem own_apart {w : World} {b1 b2 n1 n2 s1 s2 : Nat} {e1 e2 : TypeId} {v1 v2 : Value} {l1 l2 : List Value} (h1 : w.ownsRow b1 e1 s1 v1 n1 l1) (h2 : w.ownsRow b2 e2 s2 v2 n2 l2) (he : e1 ≠ e2) : v1.ownBlock = none ∨ v1.ownBlock ≠ v2.ownBlock := by
  rcases h1.2 with ⟨rfl, _⟩ | ⟨g, cap, cur, rfl, _, hg, _⟩
  · exact .inl rfl
  · refine .inr fun e => ?_
    rcases h2.2 with ⟨rfl, _⟩ | ⟨g2, cap2, cur2, rfl, _, hg2, _⟩
    · simp [Value.ownBlock] at e
    · simp [Value.ownBlock] at e
      subst e
      rw [hg] at hg2
      injection hg2 with hg2
      injection hg2 with _ hg2 _
      exact he hg2
end Go.Proofs.Ytglehjcohdjhoaa
