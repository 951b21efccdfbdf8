/-
  Rows from anywhere, appended to a slice of one's own.
-/
import Derived.Test.YtfkepkdfpjaniaaP7b
namespace Go.Proofs.Ytfkepkdfpjaniaa
open Go.RowKit
set_option linter.unusedVariables false
set_option maxRecDepth 100000

def NoInt (l : List Value) : Prop := ∀ u ∈ l, ∀ x : Nat, u ≠ .int .u64 (x : Nat)
theorem noInt_zero (k : Nat) : NoInt (Builtin.zeroCells (Value.slice none 0 0).cells k).toList := by
  have e : Builtin.zeroCells (Value.slice none 0 0).cells k = (List.replicate k (Value.slice none 0 0)).toArray := by
    apply Array.ext
    · simp [Builtin.zeroCells, Value.cells]
    · intro i h1 h2
      simp [Builtin.zeroCells, Value.cells, Nat.mod_one]
  intro u hu x
  rw [e] at hu
  have hu2 : u ∈ List.replicate k (Value.slice none 0 0) := hu
  rw [List.eq_of_mem_replicate hu2]
  intro h; cases h
theorem NoInt.append {l m : List Value} (h : NoInt l) (h2 : NoInt m) : NoInt (l ++ m) := fun u hu => by
  rcases List.mem_append.1 hu with hu | hu
  · exact h u hu
  · exact h2 u hu
/-- no cell of the block of v is a number -/
def Pure (w : World) (v : Value) : Prop := ∀ g cur, v.ownBlock = some g → w.heap[g]? = some (.cells cur 31 (0, 0)) → NoInt cur.toList
theorem run_append_rowN (w : World) (base n : Nat) (v : Value) (us : List Value) (ty : TypeId) (hown : w.ownsRow base 31 1 v n us) (hno : Pure w v) (X : Nat) (A : Option Addr) (l c : Nat) (hX : w.heap[X]? = some (.cells #[.slice A l c] 31 (0, 0)))
    (hn : n ≤ 1000) (hbase : base ≤ w.heap.size) :
    ∃ v' w', (Builtin.append_ #[25, 25] ty #[v, .slice (some ⟨X, 0, none⟩) 1 1]).run Try.prog w = .ok v' w' ∧ w'.ownsRow base 31 1 v' (n + 1) (us ++ [.slice A l c]) ∧ w.grownBy w' v.ownBlock ∧ Pure w' v' := by
  obtain ⟨i0, hi0, hz0, hz1, hz2⟩ := info_parts infoRow6
  have hnews : ∀ j u, [Value.slice A l c][j]? = some u → w.cell? ((⟨X, 0, none⟩ : Addr).add j) = some u := World.news_of_block (cs := #[.slice A l c]) (fr := (0, 0)) hX
  have h1 : ∀ u ∈ [Value.slice A l c], u.oneCell' = true := by intro u hu; simp at hu; subst hu; rfl
  obtain ⟨v', w', hr, h2, h3, _⟩ := run_append_own (P := Try.prog) w base 25 ty 31 i0 (.slice none 0 0) 1 24 Try.underlying25 hi0 hz0 hz1 hz2 rfl (by decide) v n us hown ⟨X, 0, none⟩ 1 1 [.slice A l c] rfl hnews h1 (by unfold maxLen; omega) (by omega) hbase
  refine ⟨v', w', hr, h2, h3, ?_⟩
  have hone : NoInt [Value.slice A l c] := by
    intro u hu x
    rw [List.mem_singleton.1 hu]
    intro h; cases h
  rcases hown.2 with ⟨rfl, rfl⟩ | ⟨g, cap, cur, rfl, hbg, hg, hnc, hcm, hcs, htake⟩
  · have hr2 := run_append_nil (P := Try.prog) w 25 ty 31 i0 (.slice none 0 0) Try.underlying25 hi0 hz0 ⟨X, 0, none⟩ 1 1 [.slice A l c] (by rw [hz1]; rfl) hnews (by omega) (by omega) (by omega)
    rw [hr] at hr2
    injection hr2 with hv hw
    subst hv
    subst hw
    intro g cur hg hc
    simp only [Value.ownBlock, Option.some.injEq] at hg
    subst hg
    have hne := heap_alloc_new w.drew (.cells ([Value.slice A l c].toArray ++ Builtin.zeroCells (Value.slice none 0 0).cells (grownCap w 1 0 31 - 1)) 31)
    rw [show w.drew.heap.size = w.heap.size from rfl] at hne
    rw [hne] at hc
    simp only [Option.some.injEq, Obj.cells.injEq, and_true] at hc
    rw [← hc, Array.toList_append]
    exact hone.append (noInt_zero _)
  · have hcl : NoInt cur.toList := hno g cur rfl hg
    have hus : NoInt us := fun u hu => by
      rw [← htake] at hu
      exact hcl u (List.mem_of_mem_take hu)
    by_cases hroom : n + 1 ≤ cap
    · have hfit : n * i0.size + [Value.slice A l c].length ≤ cur.size := by rw [hz1, hcs]; simp; omega
      have hr2 := run_append_room (P := Try.prog) w 25 ty 31 i0 Try.underlying25 hi0 g n cap cur hg ⟨X, 0, none⟩ 1 1 [.slice A l c] (by rw [hz1]; rfl) hnews h1 hroom hfit
      rw [hr] at hr2
      injection hr2 with hv hw
      subst hv
      subst hw
      intro g' cur' hg' hc'
      simp only [Value.ownBlock, Option.some.injEq] at hg'
      subst hg'
      rw [setRow_heap w g cur _ 31 _ hg] at hc'
      simp only [Option.some.injEq, Obj.cells.injEq, and_true] at hc'
      rw [← hc']
      exact NoInt.append (NoInt.append (fun u hu => hcl u (List.mem_of_mem_take hu)) hone) (fun u hu => hcl u (List.mem_of_mem_drop hu))
    · have holds : ∀ j u, us[j]? = some u → w.cell? ((⟨g, 0, none⟩ : Addr).add j) = some u := hown.cells (g := g) rfl
      have hr2 := run_append_grow (P := Try.prog) w 25 ty 31 i0 (.slice none 0 0) Try.underlying25 hi0 hz0 ⟨g, 0, none⟩ n cap us (by rw [hz1]; exact hown.1) holds ⟨X, 0, none⟩ 1 1 [.slice A l c] (by rw [hz1]; rfl) hnews (by omega) (by omega) (growslice_fits (by omega) (by rw [hz2]; omega))
      rw [hr] at hr2
      injection hr2 with hv hw
      subst hv
      subst hw
      intro g' cur' hg' hc'
      simp only [Value.ownBlock, Option.some.injEq] at hg'
      subst hg'
      have hne := heap_alloc_new w.drew (.cells (us.toArray ++ [Value.slice A l c].toArray ++ Builtin.zeroCells (Value.slice none 0 0).cells (grownCap w (n + 1) cap 31 - (n + 1))) 31)
      rw [show w.drew.heap.size = w.heap.size from rfl] at hne
      rw [hne] at hc'
      simp only [Option.some.injEq, Obj.cells.injEq, and_true] at hc'
      rw [← hc', Array.toList_append, Array.toList_append]
      exact NoInt.append (NoInt.append hus hone) (noInt_zero _)
theorem nums_pure {w w' : World} {base n : Nat} {tv v : Value} {us : List Value} {zs : List Nat} (h : Nums w v zs) (hown : w.ownsRow base 31 1 tv n us) (hp : Pure w tv) (hg : w.grownBy w' tv.ownBlock) : Nums w' v zs := by
  obtain ⟨h1, h2, h3⟩ := h
  refine ⟨h1, h2, ?_⟩
  rcases h3 with h3 | ⟨b, off, cap, e, hcap, hl, hcell⟩
  · exact .inl h3
  · refine .inr ⟨b, off, cap, e, hcap, Nat.lt_of_lt_of_le hl hg.size, fun i hi => hg.cell (hcell i hi) ?_⟩
    intro hb
    have hb : some b = tv.ownBlock := hb
    rcases hown.2 with ⟨rfl, _⟩ | ⟨g, cp, cur, rfl, _, hgg, _⟩
    · simp [Value.ownBlock] at hb
    · simp only [Value.ownBlock, Option.some.injEq] at hb
      subst hb
      have hc := hcell i hi
      rw [cell_of_row w b _ cur _ (0, 0) hgg] at hc
      exact hp b cur rfl hgg _ (by simpa using Array.mem_of_getElem? hc) _ rfl
/-- a slice of one's own of rows that lie anywhere -/
structure RowsN (w : World) (base : Nat) (tv : Value) (Qs : List (List Nat)) : Prop where
  own : ∃ us, w.ownsRow base 31 1 tv Qs.length us ∧ Pure w tv ∧ ∀ i, i < Qs.length → ∃ A l c, us[i]? = some (.slice A l c) ∧ Nums w (.slice A l c) (Qs.getD i [])
section
variable {w w' : World} {base : Nat} {tv : Value} {Qs : List (List Nat)}
theorem RowsN.start (w : World) (base : Nat) : RowsN w base (.slice none 0 0) [] := ⟨⟨[], World.ownsRow_nil _ _ _ _, fun g cur h => by simp [Value.ownBlock] at h, fun i hi => absurd hi (by simp)⟩⟩
theorem RowsN.form (h : RowsN w base tv Qs) : ∃ A cap, tv = .slice A Qs.length cap := by
  obtain ⟨us, h1, _⟩ := h.own
  rcases h1.2 with ⟨rfl, e⟩ | ⟨g, cap, cur, rfl, _⟩
  · exact ⟨none, 0, by rw [e]⟩
  · exact ⟨_, _, rfl⟩
theorem RowsN.below (h : RowsN w base tv Qs) (hb : Below w.heap.size w w') : RowsN w' base tv Qs := by
  obtain ⟨us, h1, hp, h2⟩ := h.own
  refine ⟨us, own_keep h1 hb, fun g cur hg hc => ?_, fun i hi => by obtain ⟨A, l, c, e, hu⟩ := h2 i hi; exact ⟨A, l, c, e, hu.below hb⟩⟩
  rcases h1.2 with ⟨rfl, _⟩ | ⟨g', cp, cur', rfl, _, hgg, _⟩
  · simp [Value.ownBlock] at hg
  · have e : g' = g := by simpa [Value.ownBlock] using hg
    subst e
    rw [hb.block g' (lt_of_block hgg)] at hc
    exact hp g' cur rfl hc
theorem RowsN.mat (h : RowsN w base tv Qs) (hk : Qs.length ≤ 1000) : Mat w tv Qs := by
  refine ⟨by omega, ?_⟩
  obtain ⟨us, h1, _, h2⟩ := h.own
  rcases h1.2 with ⟨rfl, h0⟩ | ⟨g, cap, cur, rfl, hg, hh, hc, _⟩
  · exact ⟨none, 0, by rw [h0], by omega, fun h => absurd h (by omega)⟩
  · refine ⟨_, cap, rfl, hc, fun _ => ⟨g, 0, rfl, lt_of_block hh, fun i hi => ?_⟩⟩
    obtain ⟨A, l, c, e, hu⟩ := h2 i hi
    have hcell := h1.cells (g := g) rfl i _ e
    rw [Addr.add_lit] at hcell
    exact ⟨_, hcell, hu⟩
/-- a slice of one row -/
theorem RowsN.one {A : Option Addr} {l c : Nat} {q : List Nat} (h : Nums w (.slice A l c) q) (hb : base ≤ w.heap.size) : RowsN (w.alloc (.cells #[.slice A l c] 31)) base (.slice (some ⟨w.heap.size, 0, none⟩) 1 1) [q] := by
  refine ⟨[.slice A l c], World.ownsRow_lit (base := base) (e := 31) (size := 1) w #[.slice A l c] 1 hb (by decide) rfl, fun g cur hg hc => ?_, fun i hi => ?_⟩
  · have e : w.heap.size = g := by simpa [Value.ownBlock] using hg
    subst e
    rw [heap_alloc_new] at hc
    simp only [Option.some.injEq, Obj.cells.injEq, and_true] at hc
    rw [← hc]
    intro u hu x
    rw [List.mem_singleton.1 hu]
    intro h; cases h
  · obtain rfl : i = 0 := by simpa using hi
    exact ⟨A, l, c, rfl, h.below (balloc w _)⟩
end
/-- append(out, row) at one operation; the row's value lies in block X; what reads as numbers goes on reading so -/
theorem wp_append_rowN {w : World} {o : Oper} {a : Act} {K : Act → World → Prop} {Q : Exit → Act → World → Prop} (s x : Operand)
    (ho : o.op = .call { callee := .builtin .append, args := #[s, x], argTypes := #[25, 25] }) {base X l c : Nat} {A : Option Addr} {tv : Value} {Qs : List (List Nat)} {q : List Nat} (hs : a.eval s = tv)
    (hx : a.eval x = .slice (some ⟨X, 0, none⟩) 1 1) (hX : w.heap[X]? = some (.cells #[.slice A l c] 31 (0, 0))) (hA : RowsN w base tv Qs) (hu : Nums w (.slice A l c) q) (hk : Qs.length ≤ 1000) (hbase : base ≤ w.heap.size)
    (h : ∀ v' w', RowsN w' base v' (Qs ++ [q]) → Below base w w' → (∀ v zs, Nums w v zs → Nums w' v zs) → K (a.put o.dst v') w') : o.wp Try.prog a w K Q := by
  obtain ⟨us, h1, hp, h2⟩ := hA.own
  have hul : us.length = Qs.length := by have := h1.1; omega
  obtain ⟨v', w', hr, hown, hgr, hp'⟩ := run_append_rowN w base Qs.length tv us o.type h1 hp X A l c hX hk hbase
  have hN : ∀ v zs, Nums w v zs → Nums w' v zs := fun v zs hv => nums_pure hv h1 hp hgr
  have hlt := h1.lt
  unfold Oper.wp execOp
  simp only [ho, resolve, invoke, builtin, Sem.run_bind, Sem.run_pure, Result.andThen_ok, List.map_toArray, List.map_cons, List.map_nil, hs, hx, hr]
  refine h v' w' ⟨us ++ [.slice A l c], by simpa using hown, hp', fun i hi => ?_⟩ ((Below.refl base w).grown hgr hbase (fun r hr => (hlt r hr).1)) hN
  by_cases e : i = Qs.length
  · subst e
    refine ⟨A, l, c, by rw [List.getElem?_append_right (by omega), hul]; simp, ?_⟩
    have e2 : (Qs ++ [q]).getD Qs.length [] = q := by simp [List.getD_eq_getElem?_getD]
    rw [e2]
    exact hN _ _ hu
  · have hi' : i < Qs.length := by simp at hi; omega
    obtain ⟨A', l', c', ex, hx'⟩ := h2 i hi'
    have e2 : (Qs ++ [q]).getD i [] = Qs.getD i [] := by simp [List.getD_eq_getElem?_getD, List.getElem?_append_left hi']
    rw [e2]
    exact ⟨A', l', c', by rw [List.getElem?_append_left (by omega)]; exact ex, hN _ _ hx'⟩
/-- the same, as the next of several operations -/
theorem wpList_append_rowN {w : World} {ops : Array Oper} {rest : List Oper} {o : Oper} {a : Act} {Q : Exit → Act → World → Prop} (hgd : o.guard = none) (s x : Operand)
    (ho : o.op = .call { callee := .builtin .append, args := #[s, x], argTypes := #[25, 25] }) {base X l c : Nat} {A : Option Addr} {tv : Value} {Qs : List (List Nat)} {q : List Nat} (hs : a.eval s = tv)
    (hx : a.eval x = .slice (some ⟨X, 0, none⟩) 1 1) (hX : w.heap[X]? = some (.cells #[.slice A l c] 31 (0, 0))) (hA : RowsN w base tv Qs) (hu : Nums w (.slice A l c) q) (hk : Qs.length ≤ 1000) (hbase : base ≤ w.heap.size)
    (h : ∀ v' w', RowsN w' base v' (Qs ++ [q]) → Below base w w' → (∀ v zs, Nums w v zs → Nums w' v zs) → wpList Try.prog ops Q rest (a.put o.dst v') w') : wpList Try.prog ops Q (o :: rest) a w :=
  wpList_plain hgd fun _ hK => wp_append_rowN s x ho hs hx hX hA hu hk hbase fun v' w' h2 h3 h4 => hK _ _ (h v' w' h2 h3 h4)
end Go.Proofs.Ytfkepkdfpjaniaa
