/-
  Package matrix: Powers, its rows as rows of one's own; a matrix whose rows grow.
-/
import Derived.Test.YtfgfapbhgehfiaaXI
import Derived.Test.YtfgfapbhgehfiaaD2
import Derived.Outline
namespace Go.Proofs.Ytfgfapbhgehfiaa
open Go.RowKit
set_option linter.unusedVariables false
set_option maxRecDepth 100000

theorem make_u64s (n : Nat) (hn : n ≤ 100000) : ∃ cs : Array Value, (∀ W : World, (Instr.makeSlice 31 (.int .i64 ((n : Nat) : Int)) (.int .i64 ((n : Nat) : Int))).run Try.prog W = .ok (.slice (some ⟨W.heap.size, 0, none⟩) n n) (W.alloc (.cells cs 22))) ∧
    (∀ W : World, Row (W.alloc (.cells cs 22)) W.heap.size n (fun _ => 0)) ∧ cs.size = n := by
  obtain ⟨i0, hi0, hz0, hz1, hz2⟩ := info_parts infoU64
  have h := toList_madeCells_one (Value.int .u64 0) n
  refine ⟨madeCells #[Value.int .u64 0] n, fun W => run_make_row (P := Try.prog) 31 22 i0 (.int .u64 0) Try.underlying31 hi0 hz0 hz1 rfl .i64 .i64 n (by rw [hz2]; omega) (by omega) W, fun W => ⟨_, heap_alloc_new W _, fun j hj => ?_⟩, ?_⟩
  · rw [← Array.getElem?_toList, h]
    simp [hj]
  · have := congrArg List.length h; simpa using this
theorem sized_set {w : World} {g n : Nat} {e : TypeId} (h : ∃ cs, w.heap[g]? = some (.cells cs e (0, 0)) ∧ cs.size = n) (j : Nat) (u : Value) : ∃ cs, (w.setCell ⟨g, j, none⟩ u).heap[g]? = some (.cells cs e (0, 0)) ∧ cs.size = n := by
  obtain ⟨cs, h1, h2⟩ := h
  exact ⟨_, heap_setCell_same w g j cs _ _ h1, by simp [h2]⟩
theorem own_of_row {w : World} {base g n : Nat} {F : Nat → Nat} (h : Row w g n F) (hs : ∃ cs, w.heap[g]? = some (.cells cs 22 (0, 0)) ∧ cs.size = n) (hb : base ≤ g) (hn : n ≤ 1000) : w.ownsRow base 22 1 (.slice (some ⟨g, 0, none⟩) n n) n (vals (M.tabM n F)) := by
  obtain ⟨cs, h1, h2⟩ := hs
  obtain ⟨ds, g1, g2⟩ := h
  rw [h1] at g1
  injection g1 with g1
  injection g1 with g1
  subst g1
  refine ⟨by simp [vals, M.tabM], .inr ⟨g, n, cs, rfl, hb, h1, Nat.le_refl _, by unfold maxLen; omega, by omega, ?_⟩⟩
  apply List.ext_getElem?
  intro i
  rw [List.getElem?_take]
  by_cases hi : i < n * 1
  · rw [if_pos hi, Array.getElem?_toList, g2 i (by omega)]
    simp [vals, M.tabM, show i < n by omega]
  · rw [if_neg hi, List.getElem?_eq_none]
    simp [vals, M.tabM]
    omega

/-- a matrix of one's own whose rows have lengths of their own and may grow: row i reads as F i, L i of it -/
structure EqM (w : World) (base B R : Nat) (L G Cp : Nat → Nat) (F : Nat → Nat → Nat) : Prop where
  baseB : base ≤ B
  top : ∃ cs, w.heap[B]? = some (.cells cs 31 (0, 0)) ∧ cs.size = R ∧ ∀ i, i < R → cs[i]? = some (.slice (some ⟨G i, 0, none⟩) (L i) (Cp i))
  row : ∀ i, i < R → w.ownsRow base 22 1 (.slice (some ⟨G i, 0, none⟩) (L i) (Cp i)) (L i) (vals (M.tabM (L i) (F i)))
  inj : ∀ i j, i < R → j < R → G i = G j → i = j
section
variable {w w' : World} {base B R : Nat} {L G Cp : Nat → Nat} {F F' : Nat → Nat → Nat}
theorem EqM.lt (h : EqM w base B R L G Cp F) : B < w.heap.size := by obtain ⟨cs, h, _⟩ := h.top; exact lt_of_block h
theorem EqM.cell (h : EqM w base B R L G Cp F) {i : Nat} (hi : i < R) : w.cell? ⟨B, i, none⟩ = some (.slice (some ⟨G i, 0, none⟩) (L i) (Cp i)) := by
  obtain ⟨cs, h1, _, h2⟩ := h.top; rw [cell_of_row w B i cs _ (0, 0) h1]; exact h2 i hi
theorem EqM.free (h : EqM w base B R L G Cp F) (i : Nat) : w.frozen? ⟨B, i, none⟩ = false := by obtain ⟨cs, h1, _⟩ := h.top; exact frozen_of_row w B i cs _ h1
theorem EqM.block (h : EqM w base B R L G Cp F) {i : Nat} (hi : i < R) : ∃ cur, w.heap[G i]? = some (.cells cur 22 (0, 0)) := by
  rcases (h.row i hi).2 with ⟨e, _⟩ | ⟨g, cap, cur, e, _, h1, _⟩
  · cases e
  · simp only [Value.slice.injEq, Option.some.injEq, Addr.mk.injEq, and_true, true_and] at e
    obtain ⟨rfl, _⟩ := e
    exact ⟨cur, h1⟩
theorem EqM.ltG (h : EqM w base B R L G Cp F) {i : Nat} (hi : i < R) : G i < w.heap.size := by obtain ⟨cur, h1⟩ := h.block hi; exact lt_of_block h1
theorem EqM.ne (h : EqM w base B R L G Cp F) {i : Nat} (hi : i < R) : G i ≠ B := by
  obtain ⟨cur, h1⟩ := h.block hi
  obtain ⟨cs, h2, _⟩ := h.top
  intro e
  rw [e, h2] at h1
  injection h1 with h1
  injection h1 with _ h1 _
  exact absurd h1 (by decide)
theorem EqM.same (h : EqM w base B R L G Cp F) (e : ∀ g, g < w.heap.size → base ≤ g → w'.heap[g]? = w.heap[g]?) : EqM w' base B R L G Cp F := by
  obtain ⟨cs, h1, h2, h3⟩ := h.top
  refine ⟨h.baseB, ⟨cs, (e B h.lt h.baseB).trans h1, h2, h3⟩, fun i hi => ?_, h.inj⟩
  obtain ⟨a1, a2⟩ := h.row i hi
  refine ⟨a1, ?_⟩
  rcases a2 with a2 | ⟨g, cap, cur, b1, b2, b3, b4⟩
  · exact .inl a2
  · exact .inr ⟨g, cap, cur, b1, b2, (e g (lt_of_block b3) b2).trans b3, b4⟩
theorem EqM.below (h : EqM w base B R L G Cp F) (hb : Below w.heap.size w w') : EqM w' base B R L G Cp F := h.same fun g hg _ => hb.block g hg
theorem EqM.far (h : EqM w base B R L G Cp F) {p : Addr} (hp : p.block < base) (u : Value) : EqM (w.setCell p u) base B R L G Cp F := h.same fun g _ hg => Below.heap_setCell w p u g (by omega)
theorem EqM.nums (h : EqM w base B R L G Cp F) {i : Nat} (hi : i < R) (hL : L i ≤ 1000) (hF : ∀ j, j < L i → F i j < 18446744073709551616) : Nums w (.slice (some ⟨G i, 0, none⟩) (L i) (Cp i)) (M.tabM (L i) (F i)) :=
  nums_of_owns (h.row i hi) (fun x hx => by
    unfold M.tabM at hx
    obtain ⟨j, hj, rfl⟩ := List.mem_map.1 hx
    exact hF j (List.mem_range.1 hj)) (by rw [M.tabM_len]; omega)
/-- one number more in row k -/
theorem EqM.push (h : EqM w base B R L G Cp F) {k : Nat} (hk : k < R) {g cap : Nat} {w1 : World} (hg : w.grownBy w1 (some (G k))) (hl : G k = g ∨ w.heap.size ≤ g)
    (hown : w1.ownsRow base 22 1 (.slice (some ⟨g, 0, none⟩) (L k + 1) cap) (L k + 1) (vals (M.tabM (L k) (F k)) ++ [.int .u64 (F k (L k) : Nat)])) :
    EqM (w1.setCell ⟨B, k, none⟩ (.slice (some ⟨g, 0, none⟩) (L k + 1) cap)) base B R (fun i => if i = k then L k + 1 else L i) (fun i => if i = k then g else G i) (fun i => if i = k then cap else Cp i) F := by
  obtain ⟨cs, h1, h2, h3⟩ := h.top
  have hB1 : w1.heap[B]? = some (.cells cs 31 (0, 0)) := (hg.block B h.lt (fun e => h.ne hk (by injection e with e; exact e.symm))).trans h1
  have hgB : g ≠ B := by
    rcases hl with rfl | hl
    · exact h.ne hk
    · have := h.lt; omega
  have hsize := hg.size
  refine ⟨h.baseB, ⟨_, heap_setCell_same w1 B k cs _ _ hB1, by simp [h2], fun i hi => ?_⟩, fun i hi => ?_, fun i j hi hj e => ?_⟩
  · by_cases e : i = k
    · subst e
      rw [if_pos rfl, if_pos rfl, if_pos rfl, Array.getElem?_setIfInBounds_self_of_lt (by omega)]
    · rw [if_neg e, if_neg e, if_neg e, Array.getElem?_setIfInBounds_ne (Ne.symm e)]
      exact h3 i hi
  · by_cases e : i = k
    · subst e
      rw [if_pos rfl, if_pos rfl, if_pos rfl]
      have ho := ownsRow_setCell_other hown (a := ⟨B, i, none⟩) (by simp [Value.ownBlock]; exact hgB) (.slice (some ⟨g, 0, none⟩) (L i + 1) cap)
      have e2 : M.tabM (L i + 1) (F i) = M.tabM (L i) (F i) ++ [F i (L i)] := by simp [M.tabM, List.range_succ]
      rw [e2, show vals (M.tabM (L i) (F i) ++ [F i (L i)]) = vals (M.tabM (L i) (F i)) ++ [.int .u64 (F i (L i) : Nat)] by simp [vals]]
      exact ho
    · rw [if_neg e, if_neg e, if_neg e]
      have ho := (h.row i hi).kept hg (by simp [Value.ownBlock]; exact fun e2 => e (h.inj _ _ hi hk e2))
      exact ownsRow_setCell_other ho (a := ⟨B, k, none⟩) (by simp [Value.ownBlock]; exact h.ne hi) _
  · by_cases e1 : i = k <;> by_cases e2 : j = k
    · omega
    · rw [if_pos e1, if_neg e2] at e
      rcases hl with hl | hl
      · subst e1; exact h.inj i j hi hj (hl.trans e)
      · have := h.ltG hj; omega
    · rw [if_neg e1, if_pos e2] at e
      rcases hl with hl | hl
      · subst e2; exact h.inj i j hi hj (e.trans hl.symm)
      · have := h.ltG hi; omega
    · rw [if_neg e1, if_neg e2] at e
      exact h.inj i j hi hj e
end
set_option maxHeartbeats 2000000 in
theorem powers_own (p x n : Nat) (w : World) (h3 : 3 ≤ p) (hp : p ≤ 65537) (hx : x < p) (hn : n ≤ 64) :
    Calls Try.prog 87 #[.int .u64 p, .int .u64 x, .int .i64 n] w fun e w' => ∃ g, e = .returned (.slice (some ⟨g, 0, none⟩) n n) ∧ g < w'.heap.size ∧ w'.ownsRow w.heap.size 22 1 (.slice (some ⟨g, 0, none⟩) n n) n (vals (M.tabM n (M.pw p x))) ∧ Below w.heap.size w w' := by
  obtain ⟨cs, hmk, hmrow, hmsz⟩ := make_u64s n (by omega)
  obtain ⟨g, eg⟩ : ∃ g, g = w.heap.size := ⟨_, rfl⟩
  obtain ⟨W0, eW0⟩ : ∃ W0, W0 = w.alloc (.cells cs 22) := ⟨_, rfl⟩
  have hr0 : Row W0 g n (fun i => if i < 0 then M.pw p x i else 0) := by rw [eW0, eg]; exact (hmrow w).congr fun j _ => by rw [if_neg (by omega)]
  have HR0 := Lib.hid hr0
  have HS0 := Lib.hid (show ∃ cs, W0.heap[g]? = some (.cells cs 22 (0, 0)) ∧ cs.size = n from ⟨cs, by rw [eW0, eg]; exact heap_alloc_new w _, hmsz⟩)
  have HB0 := Lib.hid (show Below w.heap.size w W0 by rw [eW0]; exact balloc w _)
  have EW0 := Lib.hid eW0
  have EG := Lib.hid eg
  have hgs : w.heap.size ≤ g := by omega
  have hone : M.pw p x 0 = 1 := M.pw_zero x (by omega)
  have HONE := Lib.hid hone
  clear hmrow hr0 eW0 eg hone hmsz
  go_enter Try.func87, Try.ntmps87
  go_wp2_with fail
  rw [← EW0.out]
  simp only [← EG.out]
  clear hmk
  go_loopw [14, 8] (fun ti tq wr => ∃ k : Nat, k ≤ n ∧ ti = .int .i64 k ∧ tq = .int .u64 (M.pw p x k : Nat) ∧ Row wr g n (fun i => if i < k then M.pw p x i else 0) ∧ (∃ cs, wr.heap[g]? = some (.cells cs 22 (0, 0)) ∧ cs.size = n) ∧ Below w.heap.size w wr) (fun ti _ _ => n - (intOf ti).toNat)
  case atStart => exact ⟨0, by omega, rfl, by rw [HONE.out]; rfl, HR0.out, HS0.out, HB0.out⟩
  case round =>
    obtain ⟨k, hk, rfl, rfl, hr, hs, hB⟩ := hrel
    have HSZ := Lib.hid hs
    clear hs HS0
    have HR := Lib.hid hr
    have HB := Lib.hid hB
    clear hr hB HR0 HB0
    have hql := M.pw_lt (p := p) x k (by omega)
    have hsq := pw_succ p x k
    by_cases hlt : k < n
    · have hc := HR.out.cell hlt
      have hf := HR.out.free k
      have hs2 := (HR.out.set hlt (M.pw p x k)).congr (F' := fun i => if i < k + 1 then M.pw p x i else 0) (fun i hi => by
        by_cases e : i = k
        · subst e; rw [if_pos rfl, if_pos (by omega)]
        · rw [if_neg e]
          by_cases e2 : i < k
          · rw [if_pos e2, if_pos (by omega)]
          · rw [if_neg e2, if_neg (by omega)])
      obtain ⟨q, eq⟩ : ∃ q, M.pw p x k = q := ⟨_, rfl⟩
      rw [eq] at hql hsq hs2 ⊢
      obtain ⟨m1, m2⟩ := mul_le hp hql hx
      have e1 : (q : Int) * x % p = ((q * x % p : Nat) : Int) := by rw [Int.natCast_emod, Int.natCast_mul]
      have HSQ := Lib.hid hsq
      have HS := Lib.hid hs2
      have E1 := Lib.hid e1
      clear hsq hs2 eq e1
      go_wp2_with fail
      go_roundw
      case rel => exact ⟨k + 1, by omega, by go_num, by rw [HSQ.out, E1.out], HS.out, sized_set HSZ.out k _, HB.out.setCell (p := ⟨g, k, none⟩) hgs _⟩
      case measure => simp [intOf]; omega
    · obtain rfl : n = k := by omega
      clear hsq
      go_wp2_with fail
      go_ret
      exact ⟨g, rfl, HR.out.lt, own_of_row (HR.out.congr fun j hj => by rw [if_pos hj]) HSZ.out hgs (by omega), HB.out⟩

/-- the matrix while its rows are made: the first k rows are there, each of n numbers -/
structure EqT (w : World) (base B R n k : Nat) (G : Nat → Nat) (F : Nat → Nat → Nat) : Prop where
  baseB : base ≤ B
  top : ∃ cs, w.heap[B]? = some (.cells cs 31 (0, 0)) ∧ cs.size = R ∧ ∀ i, i < k → cs[i]? = some (.slice (some ⟨G i, 0, none⟩) n n)
  row : ∀ i, i < k → w.ownsRow base 22 1 (.slice (some ⟨G i, 0, none⟩) n n) n (vals (M.tabM n (F i)))
  inj : ∀ i j, i < k → j < k → G i = G j → i = j
theorem EqT.start {w : World} {base B R n : Nat} {F : Nat → Nat → Nat} {cs : Array Value} (h : w.heap[B]? = some (.cells cs 31 (0, 0))) (hs : cs.size = R) (hb : base ≤ B) : EqT w base B R n 0 (fun _ => 0) F :=
  ⟨hb, ⟨cs, h, hs, fun i hi => absurd hi (by omega)⟩, fun i hi => absurd hi (by omega), fun i j hi => absurd hi (by omega)⟩
section
variable {w w' : World} {base B R n k : Nat} {G : Nat → Nat} {F : Nat → Nat → Nat}
theorem EqT.lt (h : EqT w base B R n k G F) : B < w.heap.size := by obtain ⟨cs, h, _⟩ := h.top; exact lt_of_block h
theorem EqT.free (h : EqT w base B R n k G F) (i : Nat) : w.frozen? ⟨B, i, none⟩ = false := by obtain ⟨cs, h1, _⟩ := h.top; exact frozen_of_row w B i cs _ h1
theorem EqT.some (h : EqT w base B R n k G F) {i : Nat} (hi : i < R) : ∃ x0, w.cell? ⟨B, i, none⟩ = Option.some x0 := by
  obtain ⟨cs, h1, h2, _⟩ := h.top
  rw [cell_of_row w B i cs _ (0, 0) h1]
  exact ⟨cs[i]'(by omega), Array.getElem?_eq_getElem _⟩
theorem own_block {base g n c : Nat} {l : List Value} (h : w.ownsRow base 22 1 (.slice (Option.some ⟨g, 0, none⟩) n c) n l) : base ≤ g ∧ ∃ cur, w.heap[g]? = Option.some (.cells cur 22 (0, 0)) := by
  rcases h.2 with ⟨e, _⟩ | ⟨g', cap, cur, e, hb, h1, _⟩
  · cases e
  · simp only [Value.slice.injEq, Option.some.injEq, Addr.mk.injEq, and_true, true_and] at e
    obtain ⟨rfl, _⟩ := e
    exact ⟨hb, cur, h1⟩
theorem own_at {base g n c : Nat} {l : List Value} (h : w.ownsRow base 22 1 (.slice (Option.some ⟨g, 0, none⟩) n c) n l) : base ≤ g := (own_block h).1
theorem own_base {base base' g n c : Nat} {l : List Value} (h : w.ownsRow base 22 1 (.slice (Option.some ⟨g, 0, none⟩) n c) n l) (hb : base' ≤ base) : w.ownsRow base' 22 1 (.slice (Option.some ⟨g, 0, none⟩) n c) n l := by
  refine ⟨h.1, ?_⟩
  rcases h.2 with a | ⟨g', cap, cur, e, hb', r⟩
  · exact .inl a
  · exact .inr ⟨g', cap, cur, e, by omega, r⟩
theorem EqT.ltG (h : EqT w base B R n k G F) {i : Nat} (hi : i < k) : G i < w.heap.size := by obtain ⟨_, cur, h1⟩ := own_block (h.row i hi); exact lt_of_block h1
theorem EqT.ne (h : EqT w base B R n k G F) {i : Nat} (hi : i < k) : G i ≠ B := by
  obtain ⟨_, cur, h1⟩ := own_block (h.row i hi)
  obtain ⟨cs, h2, _⟩ := h.top
  intro e
  rw [e, h2] at h1
  injection h1 with h1
  injection h1 with _ h1 _
  exact absurd h1 (by decide)
theorem EqT.below (h : EqT w base B R n k G F) (hb : Below w.heap.size w w') : EqT w' base B R n k G F := by
  obtain ⟨cs, h1, h2, h3⟩ := h.top
  exact ⟨h.baseB, ⟨cs, (hb.block B h.lt).trans h1, h2, h3⟩, fun i hi => own_keep (h.row i hi) hb, h.inj⟩
theorem EqT.push (h : EqT w base B R n k G F) (hk : k < R) {g : Nat} {f : Nat → Nat} (hown : w.ownsRow base 22 1 (.slice (Option.some ⟨g, 0, none⟩) n n) n (vals (M.tabM n f))) (hf : F k = f) (hne : ∀ i, i < k → G i ≠ g) :
    EqT (w.setCell ⟨B, k, none⟩ (.slice (Option.some ⟨g, 0, none⟩) n n)) base B R n (k + 1) (fun i => if i = k then g else G i) F := by
  obtain ⟨cs, h1, h2, h3⟩ := h.top
  subst hf
  obtain ⟨_, cur, hc⟩ := own_block hown
  have hgB : g ≠ B := by
    intro e
    rw [e, h1] at hc
    injection hc with hc
    injection hc with _ hc _
    exact absurd hc (by decide)
  refine ⟨h.baseB, ⟨_, heap_setCell_same w B k cs _ _ h1, by simp [h2], fun i hi => ?_⟩, fun i hi => ?_, fun i j hi hj e => ?_⟩
  · by_cases e : i = k
    · subst e
      rw [if_pos rfl, Array.getElem?_setIfInBounds_self_of_lt (by omega)]
    · rw [if_neg e, Array.getElem?_setIfInBounds_ne (Ne.symm e)]
      exact h3 i (by omega)
  · by_cases e : i = k
    · subst e
      rw [if_pos rfl]
      exact ownsRow_setCell_other hown (a := ⟨B, i, none⟩) (by simp [Value.ownBlock]; exact hgB) _
    · rw [if_neg e]
      exact ownsRow_setCell_other (h.row i (by omega)) (a := ⟨B, k, none⟩) (by simp [Value.ownBlock]; exact h.ne (by omega)) _
  · by_cases e1 : i = k <;> by_cases e2 : j = k
    · omega
    · simp only [if_pos e1, if_neg e2] at e; exact absurd e.symm (hne j (by omega))
    · simp only [if_neg e1, if_pos e2] at e; exact absurd e (hne i (by omega))
    · simp only [if_neg e1, if_neg e2] at e; exact h.inj i j (by omega) (by omega) e
theorem EqT.eqm (h : EqT w base B R n R G F) : EqM w base B R (fun _ => n) G (fun _ => n) F := ⟨h.baseB, h.top, h.row, h.inj⟩
end

set_option maxHeartbeats 2000000 in
theorem pow_own (p R n : Nat) (v : Value) (xs : List Nat) (w : World) (hv : Nums w v xs) (h : M.isP p = true) (hl : xs.length = R) (hR : 1 ≤ R ∧ R ≤ 64) (hn : 1 ≤ n ∧ n ≤ 64) (hw : M.within p xs = true) :
    Calls Try.prog 74 #[.int .u64 p, v, .int .i64 n] w fun e w' => ∃ B G, e = .returned (.tuple #[.slice (some ⟨B, 0, none⟩) R R, .int .i64 0]) ∧ EqM w' w.heap.size B R (fun _ => n) G (fun _ => n) (M.pwF p xs) ∧ Below w.heap.size w w' := by
  obtain ⟨h3, hp⟩ := M.pos_of h
  have hc := is_any p w (by omega)
  rw [h] at hc
  have HC := Lib.hid hc
  have hud : ∀ b : Bool, undef ≠ Value.bool b := fun b h => by cases h
  have ha := allBelow_any p v xs w hv
  rw [hw] at ha
  have HA := Lib.hid ha
  have HW := Lib.hid hw
  obtain ⟨A, c, rfl, _, _, hce⟩ := nums_view hv
  have HCE := Lib.hid hce
  have HL := Lib.hid hl
  rw [hl] at HA ⊢
  obtain ⟨hR1, hR64⟩ := hR
  obtain ⟨hn1, hn64⟩ := hn
  have HS := Lib.hid (isSide_any R w (r := true) (by simp; omega))
  have HS2 := Lib.hid (isSide_any n w (r := true) (by simp; omega))
  obtain ⟨cs, hcs, hcz, hmk⟩ := make_rows R (by omega)
  have HCS := Lib.hid hcs
  clear hc h hv ha hw hce hl hcs hcz
  go_enter Try.func74, Try.ntmps74
  go_wp2_with fail
  refine HC.out.mono ?_
  rintro e w' ⟨rfl, rfl⟩
  go_wp2_with fail
  refine HS.out.mono ?_
  rintro e w' ⟨rfl, rfl⟩
  go_wp2_with fail
  refine HS2.out.mono ?_
  rintro e w' ⟨rfl, rfl⟩
  go_wp2_with fail
  refine HA.out.mono ?_
  rintro e w3 ⟨rfl, hb⟩
  have HB3 := Lib.hid hb
  clear hb
  go_wp2_with fail
  obtain ⟨Bp, eB⟩ : ∃ Bp, Bp = w3.heap.size := ⟨_, rfl⟩
  obtain ⟨W4, eW4⟩ : ∃ W4, W4 = w3.alloc (.cells cs 31) := ⟨_, rfl⟩
  rw [← eB, ← eW4]
  have hB0 : W4.heap[Bp]? = some (.cells cs 31 (0, 0)) := by rw [eW4, eB]; exact heap_alloc_new w3 _
  have HS0 := Lib.hid (EqT.start (base := w.heap.size) (n := n) (F := M.pwF p xs) hB0 HCS.out (by have := HB3.out.size; omega))
  have HB4 := Lib.hid (show Below w3.heap.size w3 W4 by rw [eW4]; exact balloc w3 _)
  have hbp : w3.heap.size ≤ Bp := by omega
  clear hmk eW4 eB hB0
  go_loopw [32] (fun ti wr => ∃ k : Nat, k ≤ R ∧ ti = .int .i64 k ∧ (∃ G, EqT wr w.heap.size Bp R n k G (M.pwF p xs)) ∧ Below w3.heap.size w3 wr) (fun ti _ => R - (intOf ti).toNat)
  case atStart => exact ⟨0, by omega, rfl, ⟨_, HS0.out⟩, HB4.out⟩
  case round =>
    obtain ⟨k, hk, rfl, ⟨G, hm⟩, hW⟩ := hrel
    have HM := Lib.hid hm
    have HW4 := Lib.hid hW
    clear hm hW HS0 HB4
    by_cases hlt : k < R
    · obtain ⟨bx, ox, rfl, hbx, hcell⟩ := HCE.out (by rw [HL.out]; omega)
      have HWw := Lib.hid (bnext HB3.out HW4.out)
      have ck2 := (HWw.out.cell (p := ⟨bx, ox + k, none⟩) hbx).trans (hcell k (by rw [HL.out]; exact hlt))
      have hxl := M.within_mem HW.out (k := k) (by rw [HL.out]; exact hlt)
      obtain ⟨x, ex⟩ : ∃ x, xs.getD k 0 = x := ⟨_, rfl⟩
      rw [ex] at ck2 hxl
      have EX := Lib.hid ex
      have HD := Lib.hid (powers_own p x n wr h3 hp hxl hn64)
      have hBl := HM.out.lt
      have fB := HM.out.free k
      obtain ⟨x0, cB⟩ := HM.out.some hlt
      clear hcell ex
      go_wp2_with fail
      refine HD.out.mono ?_
      rintro e w5 ⟨g, rfl, hgl, hr, hb5⟩
      have cB5 := (hb5.cell (p := ⟨Bp, k, none⟩) hBl).trans cB
      have fB5 := (hb5.frozen (p := ⟨Bp, k, none⟩) hBl).trans fB
      have hpu := (HM.out.below hb5).push hlt (g := g) (own_base hr (by have := HW4.out.size; have := HB3.out.size; omega)) (by funext j; show M.pw p (xs.getD k 0) j = _; rw [EX.out]) (fun i hi => by have := HM.out.ltG hi; have := own_at hr; omega)
      have HPU := Lib.hid hpu
      have HW5 := Lib.hid (HW4.out.trans (hb5.mono HW4.out.size))
      clear hb5 hr hpu cB fB hgl
      go_wp2_with fail
      go_roundw
      case rel => exact ⟨k + 1, by omega, by go_num, ⟨_, HPU.out⟩, HW5.out.setCell (p := ⟨Bp, k, none⟩) hbp _⟩
      case measure => simp [intOf]; omega
    · obtain rfl : R = k := by omega
      go_wp2_with fail
      go_ret2
      exact ⟨Bp, G, rfl, HM.out.eqm, bnext HB3.out HW4.out⟩

/-- append onto a row of one's own: where the answer lies, and that what the old row held is there still -/
theorem run_append_kept {P : Program} (w : World) (t ty : TypeId) (base : Nat) (e : TypeId) (i : TypeInfo) (z : Value) (size bytes : Nat) (ht : P.underlying t = some (.slice e)) (hi : P.info? e = some i) (hz : i.zero = some z)
    (hsize : i.size = size) (hby : i.bytes = bytes) (hzs : z.cells.size = size) (hsz : 0 < size)
    (g0 n c0 : Nat) (xs : List Value) (hown : w.ownsRow base e size (.slice (some ⟨g0, 0, none⟩) n c0) n xs)
    (ad : Addr) (m c : Nat) (news : List Value) (hl : news.length = m * size) (hnews : ∀ j u, news[j]? = some u → w.cell? (ad.add j) = some u) (h1 : ∀ u ∈ news, u.oneCell' = true)
    (hm : 0 < m) (h63 : n + m ≤ maxLen) (hbytes : (n + m) * bytes ≤ 140737488355328) (hbase : base ≤ w.heap.size) (H : Nat) (hH : w.heap.size = H) :
    ∃ g cap w', (Builtin.append_ #[t, t] ty #[.slice (some ⟨g0, 0, none⟩) n c0, .slice (some ad) m c]).run P w = .ok (.slice (some ⟨g, 0, none⟩) (n + m) cap) w' ∧
      w'.ownsRow base e size (.slice (some ⟨g, 0, none⟩) (n + m) cap) (n + m) (xs ++ news) ∧ w.grownBy w' (some g0) ∧ (g0 = g ∨ g = H) ∧ g < w'.heap.size ∧ (∀ j u, xs[j]? = some u → w'.cell? ⟨g0, j, none⟩ = some u) := by
  obtain ⟨g, cap, w', hr, h2, h3, h4, h5⟩ := run_append_lies (P := P) w t ty base e i z size bytes ht hi hz hsize hby hzs hsz _ n xs hown ad m c news hl hnews h1 hm h63 hbytes hbase H hH
  refine ⟨g, cap, w', hr, h2, h3, by simpa [Value.ownBlock] using h4, h5, ?_⟩
  have hc0 : ∀ j u, xs[j]? = some u → w.cell? ⟨g0, j, none⟩ = some u := fun j u hu => by
    have := hown.cells (g := g0) rfl j u hu
    rwa [Addr.add_lit, Nat.zero_add] at this
  subst hsize
  subst hby
  rcases hown.2 with ⟨e1, _⟩ | ⟨g', cap', cur, e1, hbg, hg, hnc, hcm, hcs, htake⟩
  · cases e1
  · simp only [Value.slice.injEq, Option.some.injEq, Addr.mk.injEq, and_true, true_and] at e1
    obtain ⟨rfl, rfl⟩ := e1
    by_cases hroom : n + m ≤ c0
    · have hfit : n * i.size + news.length ≤ cur.size := by rw [hl, hcs, ← Nat.add_mul]; exact Nat.mul_le_mul_right _ hroom
      have hr2 := run_append_room (P := P) w t ty e i ht hi g0 n c0 cur hg ad m c news hl hnews h1 hroom hfit
      rw [hr] at hr2
      injection hr2 with hv hw
      simp only [Value.slice.injEq, Option.some.injEq, Addr.mk.injEq, and_true, true_and] at hv
      obtain ⟨rfl, _⟩ := hv
      intro j u hu
      have hj : j < xs.length := (List.getElem?_eq_some_iff.1 hu).1
      have := h2.cells (g := g) rfl j u (by rw [List.getElem?_append_left hj]; exact hu)
      rwa [Addr.add_lit, Nat.zero_add] at this
    · have hr2 := run_append_grow (P := P) w t ty e i z ht hi hz ⟨g0, 0, none⟩ n c0 xs hown.1 (fun j u hu => hown.cells (g := g0) rfl j u hu) ad m c news hl hnews (by omega) (by have h := h63; simp only [maxLen] at h; omega) (growslice_fits (by omega) hbytes)
      rw [hr] at hr2
      injection hr2 with hv hw
      intro j u hu
      rw [← hc0 j u hu, hw]
      exact World.cell?_of_block (Below.heap_alloc w.drew _ g0 (lt_of_block hg))
/-- the same, at a step of a region that draws -/
theorem step_append_kept {P : Program} (w : World) {ops : Array Oper} {o : Oper} {a : Act} {K : Act → World → Prop} {Q : Exit → Act → World → Prop} {E : Prop} (hgd : o.guard = none) (s x : Operand) (t : TypeId)
    (ho : o.op = .call { callee := .builtin .append, args := #[s, x], argTypes := #[t, t] })
    (base : Nat) (e : TypeId) (i : TypeInfo) (z : Value) (size bytes : Nat) (ht : P.underlying t = some (.slice e)) (hi : P.info? e = some i) (hz : i.zero = some z)
    (hsize : i.size = size) (hby : i.bytes = bytes) (hzs : z.cells.size = size) (hsz : 0 < size)
    (g0 n c0 : Nat) (xs : List Value) (hs : a.eval s = .slice (some ⟨g0, 0, none⟩) n c0) (hown : w.ownsRow base e size (.slice (some ⟨g0, 0, none⟩) n c0) n xs)
    (ad : Addr) (m c : Nat) (news : List Value) (hx : a.eval x = .slice (some ad) m c) (hl : news.length = m * size) (hnews : ∀ j u, news[j]? = some u → w.cell? (ad.add j) = some u) (h1 : ∀ u ∈ news, u.oneCell' = true)
    (hm : 0 < m) (h63 : n + m ≤ maxLen) (hbytes : (n + m) * bytes ≤ 140737488355328) (hbase : base ≤ w.heap.size) (H : Nat) (hH : w.heap.size = H)
    (h : ∀ g cap w', w'.ownsRow base e size (.slice (some ⟨g, 0, none⟩) (n + m) cap) (n + m) (xs ++ news) → w.grownBy w' (some g0) → (g0 = g ∨ g = H) → g < w'.heap.size → (∀ j u, xs[j]? = some u → w'.cell? ⟨g0, j, none⟩ = some u) → K (a.put o.dst (.slice (some ⟨g, 0, none⟩) (n + m) cap)) w') :
    if Region.wanted o (yielded ops a.tmps) = true then Oper.wp P o a w K Q else E := by
  have hw : Region.wanted o (yielded ops a.tmps) = true := by simp [Region.wanted, hgd]
  rw [if_pos hw]
  obtain ⟨g, cap, w', hr, h2, h3, h4, h5, h6⟩ := run_append_kept (P := P) w t o.type base e i z size bytes ht hi hz hsize hby hzs hsz g0 n c0 xs hown ad m c news hl hnews h1 hm h63 hbytes hbase H hH
  unfold Oper.wp execOp
  simp only [ho, resolve, invoke, builtin, Sem.run_bind, Sem.run_pure, Result.andThen_ok, List.map_toArray, List.map_cons, List.map_nil, hs, hx, hr]
  exact h g cap w' h2 h3 h4 h5 h6
theorem EqM.congr {w : World} {base B R : Nat} {L G Cp : Nat → Nat} {F F' : Nat → Nat → Nat} (h : EqM w base B R L G Cp F) (e : ∀ i, i < R → ∀ j, j < L i → F i j = F' i j) : EqM w base B R L G Cp F' :=
  ⟨h.baseB, h.top, fun i hi => by
    have := h.row i hi
    rwa [show M.tabM (L i) (F i) = M.tabM (L i) (F' i) from List.map_congr_left fun j hj => e i hi j (List.mem_range.1 hj)] at this, h.inj⟩
theorem own_cap {w : World} {base g n c : Nat} {l : List Value} (h : w.ownsRow base 22 1 (.slice (some ⟨g, 0, none⟩) n c) n l) : n ≤ c := by
  rcases h.2 with ⟨e, _⟩ | ⟨g', cap, cur, e, _, _, h1, _⟩
  · cases e
  · simp only [Value.slice.injEq, Option.some.injEq, Addr.mk.injEq, and_true, true_and] at e
    omega
theorem EqM.at_ {w : World} {base B R : Nat} {L G Cp : Nat → Nat} {F : Nat → Nat → Nat} (h : EqM w base B R L G Cp F) {i j : Nat} (hi : i < R) (hj : j < L i) : w.cell? ⟨G i, j, none⟩ = some (.int .u64 (F i j : Nat)) := by
  have := (h.row i hi).cells (g := G i) rfl j (.int .u64 (F i j : Nat)) (by simp [vals, M.tabM, hj])
  rwa [Addr.add_lit, Nat.zero_add] at this
theorem EqM.base {w : World} {base base' B R : Nat} {L G Cp : Nat → Nat} {F : Nat → Nat → Nat} (h : EqM w base B R L G Cp F) (hb : base' ≤ base) : EqM w base' B R L G Cp F :=
  ⟨Nat.le_trans hb h.baseB, h.top, fun i hi => own_base (h.row i hi) hb, h.inj⟩
theorem EqM.other {w : World} {base B R : Nat} {L G Cp : Nat → Nat} {F : Nat → Nat → Nat} (h : EqM w base B R L G Cp F) {a : Addr} (hB : B ≠ a.block) (hG : ∀ i, i < R → G i ≠ a.block) (u : Value) : EqM (w.setCell a u) base B R L G Cp F := by
  obtain ⟨cs, h1, h2, h3⟩ := h.top
  exact ⟨h.baseB, ⟨cs, (Below.heap_setCell w a u B hB).trans h1, h2, h3⟩, fun i hi => ownsRow_setCell_other (h.row i hi) (a := a) (by simp [Value.ownBlock]; exact hG i hi) u, h.inj⟩
theorem EqM.len {w : World} {base B R : Nat} {L L' G Cp : Nat → Nat} {F : Nat → Nat → Nat} (h : EqM w base B R L G Cp F) (e : ∀ i, i < R → L i = L' i) : EqM w base B R L' G Cp F := by
  obtain ⟨cs, h1, h2, h3⟩ := h.top
  exact ⟨h.baseB, ⟨cs, h1, h2, fun i hi => by rw [← e i hi]; exact h3 i hi⟩, fun i hi => by rw [← e i hi]; exact h.row i hi, h.inj⟩
theorem EqM.mat {w : World} {base B R cap K : Nat} {L G Cp : Nat → Nat} {F : Nat → Nat → Nat} (h : EqM w base B R L G Cp F) (hR : R ≤ cap) (hR2 : R ≤ 1000) (hL : ∀ i, i < R → L i = K) (hK : K ≤ 1000) (hF : ∀ i, i < R → ∀ j, j < K → F i j < 18446744073709551616) : Mat w (.slice (some ⟨B, 0, none⟩) R cap) (M.tabMM R K F) := by
  refine ⟨by rw [M.tabMM_len]; omega, _, cap, by rw [M.tabMM_len], by rw [M.tabMM_len]; exact hR, fun h0 => ⟨B, 0, rfl, h.lt, fun i hi => ?_⟩⟩
  rw [M.tabMM_len] at hi
  refine ⟨_, by rw [Nat.zero_add]; exact h.cell hi, ?_⟩
  rw [M.tabMM_at _ _ hi]
  have := h.nums hi (by rw [hL i hi]; exact hK) (fun j hj => hF i hi j (by rw [← hL i hi]; exact hj))
  rwa [hL i hi] at this ⊢

end Go.Proofs.Ytfgfapbhgehfiaa
