/-
  Back, BackG, Cont, Region (joined).
-/
import Derived.Test.YtfkepkdfpjaniaaProg
import Derived.Test.YtfkepkdfpjaniaaMA
import Derived.Test.YtfkepkdfpjaniaaLB
import Derived.RangeFuncBox
import Derived.RangeFuncLeaves
import Derived.RangeFuncFrom
import Derived.RangeFuncWrites
import Derived.Shelf.Abstract
import Derived.WalkKit
import Derived.OwnWalkIn
import Derived.TacticsInMore
import Derived.LoopNIn
import Derived.LoopIn
import Derived.Lib.Hide
import Derived.Sort.QuietIn
namespace Go.Proofs.Ytfkepkdfpjaniaa
open Go.RowKit Go.Shelf
set_option linter.unusedVariables false
attribute [local go_sem] Oper.semAt_some

/-- what has come when k rounds are over, the last first: (n-1, zs[n-1]), .., (n-k, zs[n-k]) -/
def downto (zs : List Nat) (n k : Nat) : List (Nat × Nat) := (List.range k).map fun j => (n - 1 - j, zs[n - 1 - j]?.getD 0)
theorem downto_succ (zs : List Nat) (n k : Nat) : downto zs n (k + 1) = downto zs n k ++ [(n - 1 - k, zs[n - 1 - k]?.getD 0)] := by simp [downto, List.range_succ]
theorem downto_len (zs : List Nat) (n k : Nat) : (downto zs n k).length = k := by simp [downto]

/-- what a round must leave alone: what lies below n₀, and the box of the slice that is gone through -/
def KB (n₀ Bs : Nat) (W W' : World) : Prop := Below n₀ W W' ∧ W'.cell? ⟨Bs, 0, none⟩ = W.cell? ⟨Bs, 0, none⟩
theorem KB.refl (n₀ Bs : Nat) (W : World) : KB n₀ Bs W W := ⟨Below.refl _ _, rfl⟩
theorem KB.trans {n₀ Bs : Nat} {A B C : World} (h : KB n₀ Bs A B) (h2 : KB n₀ Bs B C) : KB n₀ Bs A C := ⟨h.1.trans h2.1, h2.2.trans h.2⟩

set_option maxRecDepth 100000 in
set_option maxHeartbeats 2000000 in
theorem back1_in (F : Fence) (n : Nat) (h8 : F.fn 115) (hro : F.round = none) (hn : 1 ≤ n) (l Bs n₀ b off len cap : Nat) (zs : List Nat) (hreach : len ≤ 17592186043904) (hb : b < n₀) (J Jx : List (Nat × Nat) → World → Prop)
    (hY : ∀ pre (x : Nat × Nat) W, (x.1 < len ∧ x.2 = zs[x.1]?.getD 0) → J pre W → pre.length < len → YieldAt F (n - 1) Try.prog l #[.int .i64 (x.1 : Nat), .int .u64 (x.2 : Nat)] W fun e W' =>
      (e = .returned (.bool true) ∧ J (pre ++ [x]) W' ∧ KB n₀ Bs W W') ∨ (e = .returned (.bool false) ∧ Jx (pre ++ [x]) W'))
    (W : World) (hBs : W.cell? ⟨Bs, 0, none⟩ = some (.slice (some ⟨b, off, none⟩) len cap)) (hc : ∀ j, j < len → W.cell? ⟨b, off + j, none⟩ = some (.int .u64 ((zs[j]?.getD 0 : Nat) : Int))) (h0 : J [] W) :
    CallsIn F n Try.prog 115 #[.func (.yield l) #[] #[], .pointer (some ⟨Bs, 0, none⟩)] W fun e W' => (∃ v, e = .returned v) ∧
      ((∃ ys, ys = downto zs len len ∧ J ys W') ∨ (∃ pre, (∃ k, k ≤ len ∧ pre = downto zs len k) ∧ Jx pre W')) := by
  refine callsIn_of_wp Try.func115 rfl h8 ?_ hro
  simp only [Try.ntmps115, List.size_toArray, List.length_cons, List.length_nil, Nat.reduceAdd, Nat.reduceSub, Array.replicate_succ, Array.replicate_zero, List.push_toArray, List.append_toArray, List.nil_append, List.cons_append]
  gi_wp2
  gi_loopw [3] (fun i wr => ∃ k : Nat, k ≤ len ∧ i = .int .i64 ((len : Int) - 1 - k) ∧ J (downto zs len k) wr ∧ KB n₀ Bs W wr)
    (fun i _ => (intOf i + 1).toNat)
  case atStart => exact ⟨0, Nat.zero_le _, by go_num, h0, KB.refl _ _ _⟩
  case round =>
    obtain ⟨k, hk, rfl, hJs, hnx⟩ := hrel
    by_cases hlt : k < len
    · have hcx : wr.cell? ⟨b, off + (len - 1 - k), none⟩ = some (.int .u64 ((zs[len - 1 - k]?.getD 0 : Nat) : Int)) := (hnx.1.cell (p := ⟨b, off + (len - 1 - k), none⟩) hb).trans (hc _ (by omega))
      have hbx : wr.cell? ⟨Bs, 0, none⟩ = some (.slice (some ⟨b, off, none⟩) len cap) := hnx.2.trans hBs
      obtain ⟨fn, tmps, assign, body, hy, hR⟩ := hY _ (len - 1 - k, zs[len - 1 - k]?.getD 0) wr ⟨by dsimp only; omega, rfl⟩ hJs (by rw [downto_len]; exact hlt)
      dsimp only at hy
      rw [show ((len - 1 - k : Nat) : Int) = (len : Int) - 1 - k by omega] at hy
      gi_wp2
      refine hR.mono ?_
      rintro e W3 (⟨rfl, hJ3, hk3⟩ | ⟨rfl, hJx3⟩)
      · gi_wp2
        go_roundw
        case rel => exact ⟨k + 1, by omega, by go_num, by rw [downto_succ]; exact hJ3, hnx.trans hk3⟩
        case measure => simp [intOf]; omega
      · gi_wp2
        refine bodyPost_ret (results_none rfl _ _ _) rfl ?_
        exact ⟨⟨_, rfl⟩, .inr ⟨_, ⟨k + 1, by omega, (downto_succ _ _ _).symm⟩, hJx3⟩⟩
    · obtain rfl : k = len := by omega
      gi_wp2
      go_end0
      exact ⟨⟨_, rfl⟩, .inl ⟨_, rfl, hJs⟩⟩

set_option maxRecDepth 100000 in
set_option maxHeartbeats 1000000 in
theorem back1_nil_in (F : Fence) (n : Nat) (h8 : F.fn 115) (hro : F.round = none) (l Bs : Nat) (a : Option Addr) (cap : Nat) (J : List (Nat × Nat) → World → Prop) (W : World) (hBs : W.cell? ⟨Bs, 0, none⟩ = some (.slice a 0 cap)) (h0 : J [] W) :
    CallsIn F n Try.prog 115 #[.func (.yield l) #[] #[], .pointer (some ⟨Bs, 0, none⟩)] W fun e W' => (∃ v, e = .returned v) ∧ J [] W' := by
  refine callsIn_of_wp Try.func115 rfl h8 ?_ hro
  simp only [Try.ntmps115, List.size_toArray, List.length_cons, List.length_nil, Nat.reduceAdd, Nat.reduceSub, Array.replicate_succ, Array.replicate_zero, List.push_toArray, List.append_toArray, List.nil_append, List.cons_append]
  gi_wp2
  gi_loopw [3] (fun i wr => i = .int .i64 (-1) ∧ J [] wr) (fun _ _ => 0)
  case atStart => exact ⟨rfl, h0⟩
  case round =>
    obtain ⟨rfl, hJs⟩ := hrel
    gi_wp2
    go_end0
    exact ⟨⟨_, rfl⟩, hJs⟩

set_option maxHeartbeats 1000000 in
theorem back_in (F : Fence) (n : Nat) (h5 : F.fn 106) (hro : F.round = none) (a : Option Addr) (len cap : Nat) (w : World) :
    CallsIn F n Try.prog 106 #[.slice a len cap] w fun e w' => e = .returned (.func (.func 115) #[] #[.pointer (some ⟨w.heap.size, 0, none⟩)]) ∧ w' = w.alloc (.cells #[.slice a len cap] 31) := by
  refine callsIn_of_wp Try.func106 rfl h5 ?_ hro
  simp only [Try.ntmps106, List.size_toArray, List.length_cons, List.length_nil, Nat.reduceAdd, Nat.reduceSub, Array.replicate_succ, Array.replicate_zero, List.push_toArray, List.append_toArray, List.nil_append, List.cons_append]
  gi_wp2
  go_ret
  exact ⟨rfl, rfl⟩

/-- a place of the slice, and what lies there -/
abbrev Pair (zs : List Nat) (len : Nat) := { x : Nat × Nat // x.1 < len ∧ x.2 = zs[x.1]?.getD 0 }
def pairs {zs : List Nat} {len : Nat} (l : List (Pair zs len)) : List (Nat × Nat) := l.map (·.1)
theorem back_stops (F : Fence) (n : Nat) (h8 : F.fn 115) (hro : F.round = none) (hn : 1 ≤ n) (Bs n₀ b off len cap : Nat) (zs : List Nat) (hreach : len ≤ 17592186043904) (w : World) (hBs : Bs < w.heap.size) (hn₀ : n₀ ≤ w.heap.size) (hb : b < n₀)
    (hc : w.cell? ⟨Bs, 0, none⟩ = some (.slice (some ⟨b, off, none⟩) len cap)) (hI : ∀ j, j < len → w.cell? ⟨b, off + j, none⟩ = some (.int .u64 ((zs[j]?.getD 0 : Nat) : Int))) :
    SeqStopsK F n Try.prog 115 #[.pointer (some ⟨Bs, 0, none⟩)] (fun x : Pair zs len => #[Value.int .i64 (x.1.1 : Nat), Value.int .u64 (x.1.2 : Nat)]) (KB n₀ Bs) (fun ys => pairs ys = downto zs len len)
      (fun pre => ∃ k, k ≤ len ∧ pairs pre = downto zs len k) len w := fun l J Jx W hW _ _ hY h0 => by
  have hc' := (hW.cell (p := ⟨Bs, 0, none⟩) hBs).trans hc
  have hI' := fun j hj => (hW.cell (p := ⟨b, off + j, none⟩) (Nat.lt_of_lt_of_le hb hn₀)).trans (hI j hj)
  refine (back1_in F n h8 hro hn l Bs n₀ b off len cap zs hreach hb (fun q V => ∃ ys : List (Pair zs len), pairs ys = q ∧ J ys V) (fun q V => ∃ ys : List (Pair zs len), pairs ys = q ∧ Jx ys V) ?_ W hc' hI' ⟨[], rfl, h0⟩).mono ?_
  · rintro pre x V hx ⟨ys, rfl, hj⟩ hl
    obtain ⟨fn, tmps, assign, body, hy, hR⟩ := hY ys ⟨x, hx⟩ V hj (by simpa [pairs] using hl)
    refine ⟨fn, tmps, assign, body, hy, hR.mono ?_⟩
    rintro e V' (⟨he, hj', hk⟩ | ⟨he, hj'⟩)
    · exact .inl ⟨he, ⟨_, by simp [pairs], hj'⟩, hk⟩
    · exact .inr ⟨he, ⟨_, by simp [pairs], hj'⟩⟩
  · rintro e V ⟨he, ⟨ys, rfl, zl, hz, hj⟩ | ⟨pre, ⟨k, hk, rfl⟩, zl, hz, hj⟩⟩
    · exact ⟨he, .inl ⟨zl, hz, hj⟩⟩
    · exact ⟨he, .inr ⟨zl, ⟨k, hk, hz⟩, hj⟩⟩
theorem back_stops_nil (F : Fence) (n : Nat) (h8 : F.fn 115) (hro : F.round = none) (Bs n₀ cap : Nat) (a : Option Addr) (w : World) (hBs : Bs < w.heap.size)
    (hc : w.cell? ⟨Bs, 0, none⟩ = some (.slice a 0 cap)) :
    SeqStopsK F n Try.prog 115 #[.pointer (some ⟨Bs, 0, none⟩)] (fun x : Pair [] 0 => #[Value.int .i64 (x.1.1 : Nat), Value.int .u64 (x.1.2 : Nat)]) (KB n₀ Bs) (fun ys => pairs ys = downto [] 0 0)
      (fun pre => ∃ k, k ≤ 0 ∧ pairs pre = downto [] 0 k) 0 w := fun l J Jx W hW _ _ hY h0 => by
  have hc' := (hW.cell (p := ⟨Bs, 0, none⟩) hBs).trans hc
  exact (back1_nil_in F n h8 hro l Bs a cap (fun q V => ∃ ys : List (Pair [] 0), pairs ys = q ∧ J ys V) W hc' ⟨[], rfl, h0⟩).mono fun e W' ⟨he, ys, hq, hj⟩ => ⟨he, .inl ⟨ys, hq, hj⟩⟩
theorem kb_b {n₀ Bs : Nat} {w : World} (hn : n₀ ≤ w.heap.size) (hb : Bs < w.heap.size) (W : World) (l : Nat) (o o' : Obj) (hl : w.heap.size ≤ l) (h : W.heap[l]? = some o) (h1 : o.isCells = false) (h2 : o.isWalk = false) : KB n₀ Bs W (W.putObj l o') :=
  ⟨belowK_b hn W l o o' hl h h1 h2, World.cell?_of_block ((grownBy_putObj' W l o').block Bs (by have := (Array.getElem?_eq_some_iff.1 h).1; omega) (fun e => by cases e; omega))⟩
end Go.Proofs.Ytfkepkdfpjaniaa
namespace Go.Proofs.Ytfkepkdfpjaniaa
open Go.RowKit Go.Shelf
set_option linter.unusedVariables false
attribute [local go_sem] Oper.semAt_some

/-- the places that have come when k rounds are over, the last first -/
def down (n k : Nat) : List Nat := (List.range k).map fun j => n - 1 - j
theorem down_succ (n k : Nat) : down n (k + 1) = down n k ++ [n - 1 - k] := by simp [down, List.range_succ]
theorem down_len (n k : Nat) : (down n k).length = k := by simp [down]
theorem mem_down {n k i : Nat} (h1 : n - k ≤ i) (h2 : i < n) : i ∈ down n k := by
  unfold down
  rw [List.mem_map]
  exact ⟨n - 1 - i, by rw [List.mem_range]; omega, by omega⟩

set_option maxRecDepth 100000 in
set_option maxHeartbeats 2000000 in
theorem backG1_in (F : Fence) (n : Nat) (h8 : F.fn 115) (hro : F.round = none) (hn : 1 ≤ n) (l Bs len cap : Nat) (A : Option Addr) (Rd : Nat → Nat → Prop) (hreach : len ≤ 17592186043904)
    (Kp : World → World → Prop) (hKr : ∀ W, Kp W W) (hKt : ∀ {X Y Z : World}, Kp X Y → Kp Y Z → Kp X Z) (W : World)
    (hrd : ∀ W', Kp W W' → W'.cell? ⟨Bs, 0, none⟩ = some (.slice A len cap) ∧ ∀ j, j < len → ∃ b off x : Nat, A = some ⟨b, off, none⟩ ∧ W'.cell? ⟨b, off + j, none⟩ = some (.int .u64 (x : Nat)) ∧ Rd j x)
    (J Jx : List (Nat × Nat) → World → Prop)
    (hY : ∀ pre (x : Nat × Nat) W, (x.1 < len ∧ Rd x.1 x.2) → J pre W → pre.length < len → YieldAt F (n - 1) Try.prog l #[.int .i64 (x.1 : Nat), .int .u64 (x.2 : Nat)] W fun e W' =>
      (e = .returned (.bool true) ∧ J (pre ++ [x]) W' ∧ Kp W W') ∨ (e = .returned (.bool false) ∧ Jx (pre ++ [x]) W'))
    (h0 : J [] W) :
    CallsIn F n Try.prog 115 #[.func (.yield l) #[] #[], .pointer (some ⟨Bs, 0, none⟩)] W fun e W' => (∃ v, e = .returned v) ∧
      ((∃ ys, ys.map Prod.fst = down len len ∧ J ys W') ∨ (∃ pre, (∃ k, k ≤ len ∧ pre.map Prod.fst = down len k) ∧ Jx pre W')) := by
  have hW0 := (hrd W (hKr W)).1
  refine callsIn_of_wp Try.func115 rfl h8 ?_ hro
  simp only [Try.ntmps115, List.size_toArray, List.length_cons, List.length_nil, Nat.reduceAdd, Nat.reduceSub, Array.replicate_succ, Array.replicate_zero, List.push_toArray, List.append_toArray, List.nil_append, List.cons_append]
  gi_wp2
  gi_loopw [3] (fun i wr => ∃ (k : Nat) (pre : List (Nat × Nat)), k ≤ len ∧ i = .int .i64 ((len : Int) - 1 - k) ∧ pre.map Prod.fst = down len k ∧ J pre wr ∧ Kp W wr)
    (fun i _ => (intOf i + 1).toNat)
  case atStart => exact ⟨0, [], Nat.zero_le _, by go_num, rfl, h0, hKr W⟩
  case round =>
    obtain ⟨k, pre, hk, rfl, hpre, hJs, hnx⟩ := hrel
    have HP := Lib.hid hpre
    have hpl : pre.length = k := by have := congrArg List.length hpre; rw [down_len] at this; simpa using this
    clear hpre
    by_cases hlt : k < len
    · obtain ⟨hbx, hcs⟩ := hrd wr hnx
      obtain ⟨b, off, x, rfl, hcx, hR0⟩ := hcs (len - 1 - k) (by omega)
      obtain ⟨fn, tmps, assign, body, hy, hR⟩ := hY pre (len - 1 - k, x) wr ⟨by dsimp only; omega, hR0⟩ hJs (by omega)
      clear hcs hrd hW0 hpl hR0
      dsimp only at hy
      rw [show ((len - 1 - k : Nat) : Int) = (len : Int) - 1 - k by omega] at hy
      gi_wp2
      refine hR.mono ?_
      rintro e W3 (⟨rfl, hJ3, hk3⟩ | ⟨rfl, hJx3⟩)
      · gi_wp2
        go_roundw
        case rel => exact ⟨k + 1, pre ++ [(len - 1 - k, x)], by omega, by go_num, by rw [down_succ, List.map_append, HP.out]; rfl, hJ3, hKt hnx hk3⟩
        case measure => simp [intOf]; omega
      · gi_wp2
        refine bodyPost_ret (results_none rfl _ _ _) rfl ?_
        exact ⟨⟨_, rfl⟩, .inr ⟨_, ⟨k + 1, by omega, by rw [down_succ, List.map_append, HP.out]; rfl⟩, hJx3⟩⟩
    · obtain rfl : k = len := by omega
      clear hrd hW0 hpl
      gi_wp2
      go_end0
      exact ⟨⟨_, rfl⟩, .inl ⟨_, HP.out, hJs⟩⟩

/-- a place of the slice, and what came of it -/
abbrev Plc (len : Nat) (Rd : Nat → Nat → Prop) := { x : Nat × Nat // x.1 < len ∧ Rd x.1 x.2 }
def fsts {len : Nat} {Rd : Nat → Nat → Prop} (l : List (Plc len Rd)) : List Nat := l.map (·.1.1)
theorem fsts_snoc {len : Nat} {Rd : Nat → Nat → Prop} (l : List (Plc len Rd)) (x : Plc len Rd) : fsts (l ++ [x]) = fsts l ++ [x.1.1] := by simp [fsts]
theorem down_snoc {len : Nat} {Rd : Nat → Nat → Prop} {l : List (Plc len Rd)} {x : Plc len Rd} {k : Nat} (h : fsts (l ++ [x]) = down len k) : ∃ k', k = k' + 1 ∧ fsts l = down len k' ∧ x.1.1 = len - 1 - k' := by
  have hl := congrArg List.length h
  rw [down_len, fsts_snoc] at hl
  simp only [List.length_append, List.length_cons, List.length_nil] at hl
  obtain ⟨k', rfl⟩ : ∃ k', k = k' + 1 := ⟨k - 1, by omega⟩
  rw [down_succ, fsts_snoc] at h
  obtain ⟨e1, e2⟩ := List.append_inj' h rfl
  exact ⟨k', rfl, e1, by simpa using e2⟩
theorem fsts_mem {len : Nat} {Rd : Nat → Nat → Prop} {l : List (Plc len Rd)} {k i : Nat} (h : fsts l = down len k) (h1 : len - k ≤ i) (h2 : i < len) : ∃ y ∈ l, y.1.1 = i := by
  have := mem_down h1 h2
  rw [← h] at this
  unfold fsts at this
  obtain ⟨y, hy, e⟩ := List.mem_map.1 this
  exact ⟨y, hy, e⟩

theorem backG_stops (F : Fence) (n : Nat) (h8 : F.fn 115) (hro : F.round = none) (hn : 1 ≤ n) (Bs len cap : Nat) (A : Option Addr) (Rd : Nat → Nat → Prop) (hreach : len ≤ 17592186043904)
    (Kp : World → World → Prop) (hKr : ∀ W, Kp W W) (hKt : ∀ {X Y Z : World}, Kp X Y → Kp Y Z → Kp X Z) (w : World)
    (hrd : ∀ W W', Below w.heap.size w W → Kp W W' → W'.cell? ⟨Bs, 0, none⟩ = some (.slice A len cap) ∧ ∀ j, j < len → ∃ b off x : Nat, A = some ⟨b, off, none⟩ ∧ W'.cell? ⟨b, off + j, none⟩ = some (.int .u64 (x : Nat)) ∧ Rd j x) :
    SeqStopsK F n Try.prog 115 #[.pointer (some ⟨Bs, 0, none⟩)] (fun x : Plc len Rd => #[Value.int .i64 (x.1.1 : Nat), Value.int .u64 (x.1.2 : Nat)]) Kp (fun ys => fsts ys = down len len)
      (fun pre => ∃ k, k ≤ len ∧ fsts pre = down len k) len w := fun l J Jx W hW _ _ hY h0 => by
  refine (backG1_in F n h8 hro hn l Bs len cap A Rd hreach Kp hKr hKt W (fun W' h => hrd W W' hW h) (fun q V => ∃ ys : List (Plc len Rd), ys.map (·.1) = q ∧ J ys V) (fun q V => ∃ ys : List (Plc len Rd), ys.map (·.1) = q ∧ Jx ys V) ?_ ⟨[], rfl, h0⟩).mono ?_
  · rintro pre x V hx ⟨ys, rfl, hj⟩ hl
    obtain ⟨fn, tmps, assign, body, hy, hR⟩ := hY ys ⟨x, hx⟩ V hj (by simpa using hl)
    refine ⟨fn, tmps, assign, body, hy, hR.mono ?_⟩
    rintro e V' (⟨he, hj', hk⟩ | ⟨he, hj'⟩)
    · exact .inl ⟨he, ⟨_, by simp, hj'⟩, hk⟩
    · exact .inr ⟨he, ⟨_, by simp, hj'⟩⟩
  · rintro e V ⟨he, ⟨ys, hd, zl, rfl, hj⟩ | ⟨pre, ⟨k, hk, hd⟩, zl, rfl, hj⟩⟩
    · exact ⟨he, .inl ⟨zl, by rw [List.map_map] at hd; exact hd, hj⟩⟩
    · exact ⟨he, .inr ⟨zl, ⟨k, hk, by rw [List.map_map] at hd; exact hd⟩, hj⟩⟩
end Go.Proofs.Ytfkepkdfpjaniaa
namespace Go.Proofs.Ytfkepkdfpjaniaa
open Go.RowKit
set_option linter.unusedVariables false

def NoZero (zs : List Nat) (k : Nat) : Prop := ∀ i, i < k → zs.getD i 0 ≠ 0
/-- what Index answers: a place at which 0 stands, or -1 and there is none -/
def Found (zs : List Nat) (e : Ending) : Prop := (∃ k : Nat, k < zs.length ∧ zs.getD k 0 = 0 ∧ e = .returned (.int .i64 k)) ∨ (NoZero zs zs.length ∧ e = .returned (.int .i64 (-1)))

end Go.Proofs.Ytfkepkdfpjaniaa
namespace Go.Proofs.Ytfkepkdfpjaniaa
set_option linter.unusedVariables false

section
variable {F : Fence} {n lr : Nat} {P : Program} {C : World → Prop} {Q : Exit → Act → World → Prop}

theorem wpOpIn_turn {ops ops' : Array Oper} {i : Nat} {K : Act → World → Prop} {a : Act} {w : World} {o : Oper} (h1 : ops[i]? = some o) (h2 : ops'[i]? = some o) (hg : o.guard = none) (hd : ∀ c, o.op ≠ .defer c) (hro : F.round = none)
    (h : wpOpIn F n P ops' Q i K a w) : wpOpIn (F.inRound lr) n P ops Q i K a w := by
  unfold wpOpIn at *
  rw [h1]
  rw [h2] at h
  have hw : ∀ ops : Array Oper, Region.wanted o (yielded ops a.tmps) = true := fun ops => by simp [Region.wanted, hg]
  simp only [hw, if_true] at h ⊢
  unfold Oper.wpIn at *
  refine ⟨h.1, ?_⟩
  have h2 := h.2
  rw [Oper.semAt_eq _ _ _ hd] at h2 ⊢
  exact h2

/-- a Boolean look at the operations: no guard, no defer statement, each waits for earlier ones alone; the last waits for all -/
def plainOp (o : Oper) : Bool := o.guard.isNone && (match o.op with | .defer _ => false | _ => true)
theorem plainOp_spec {o : Oper} (h : plainOp o = true) : o.guard = none ∧ ∀ c, o.op ≠ .defer c := by
  unfold plainOp at h
  rw [Bool.and_eq_true] at h
  refine ⟨by simpa using h.1, fun c e => ?_⟩
  rw [e] at h
  exact absurd h.2 (by simp)
def backOnly (l : List Oper) (k : Nat) : Bool := match l with
  | [] => true
  | o :: l => plainOp o && o.after.all (fun e => e.on < k) && backOnly l (k + 1)
theorem backOnly_spec : ∀ (l : List Oper) (k : Nat), backOnly l k = true → ∀ (j : Nat) (o : Oper), l[j]? = some o → plainOp o = true ∧ ∀ e ∈ o.after, e.on < k + j
  | [], _, _, j, o, h => by simp at h
  | x :: l, k, hb, j, o, h => by
    unfold backOnly at hb
    rw [Bool.and_eq_true, Bool.and_eq_true] at hb
    cases j with
    | zero =>
      simp at h; subst h
      exact ⟨hb.1.1, fun e he => by have h2 := Array.all_eq_true'.1 hb.1.2 e he; simpa using h2⟩
    | succ j =>
      have := backOnly_spec l (k + 1) hb.2 j o (by simpa using h)
      exact ⟨this.1, fun e he => by have := this.2 e he; omega⟩

theorem wpAnyIn_tail {l0 : List Oper} {o : Oper} (hro : F.round = none) (hb : backOnly l0 0 = true) (ho : plainOp o = true) (hall : ∀ j, j < l0.length → ∃ e ∈ o.after, e.on = j ∧ Region.binds .any e = true)
    (hon : ∀ e ∈ o.after, e.on < l0.length) {Qa : Act → Prop} (hQ : ∀ a w, C w → Qa a → wpListIn (F.inRound lr) n P (l0 ++ [o]).toArray Q [o] a w) :
    ∀ (fuel : Nat) (listed : Array Bool) (a : Act) (w : World), listed.size = l0.length → C w → wpAnyQIn F n P .any l0.toArray C Qa fuel listed a → wpAnyIn (F.inRound lr) n P .any (l0 ++ [o]).toArray Q (fuel + 1) (listed.push false) a w := by
  -- where the others have all been listed
  have last : ∀ (fuel : Nat) (listed : Array Bool) (a : Act) (w : World), listed.size = l0.length → C w → Region.ready .any l0.toArray listed = [] → Qa a → wpAnyIn (F.inRound lr) n P .any (l0 ++ [o]).toArray Q (fuel + 1) (listed.push false) a w := by
    intro fuel listed a w hs hC hr hq
    have hl : ∀ j, j < l0.length → listed.getD j false = true := by
      intro j
      induction j using Nat.strongRecOn with
      | ind j ih =>
        intro hj
        apply Classical.byContradiction
        intro hn
        have hm : j ∈ Region.ready .any l0.toArray listed := by
          refine mem_ready.2 ⟨?_, l0[j], by simp [hj], fun e he _ => ?_⟩
          · rw [Array.getD_eq_getD_getElem?, Array.getElem?_eq_getElem (by omega)] at hn ⊢
            simpa using hn
          · have := (backOnly_spec l0 0 hb j l0[j] (by simp [hj])).2 e he
            exact ih e.on (by omega) (by omega)
        rw [hr] at hm
        cases hm
    have hg : ∀ j, j < l0.length → ∀ d, (listed.push false).getD j d = true := by
      intro j hj d
      have := hl j hj
      rw [Array.getD_eq_getD_getElem?, Array.getElem?_eq_getElem (by omega)] at this
      rw [Array.getD_eq_getD_getElem?, Array.getElem?_push_lt (by omega)]
      simpa using this
    have hgm : ∀ d, (listed.push false).getD l0.length d = false := by
      intro d; rw [Array.getD_eq_getD_getElem?, ← hs, Array.getElem?_push_size]; rfl
    have hop : (l0 ++ [o]).toArray[l0.length]? = some o := by simp
    have hmem : l0.length ∈ Region.ready .any (l0 ++ [o]).toArray (listed.push false) := mem_ready.2 ⟨hgm _, o, hop, fun e he _ => hg _ (hon e he) _⟩
    refine ⟨fun h0 => absurd hmem (by rw [h0]; simp), fun i hi => ?_⟩
    obtain ⟨h1, oi, h2, _⟩ := mem_ready.1 hi
    have hlt : i < l0.length + 1 := by
      have := (Array.getElem?_eq_some_iff.1 h2).1
      simpa using this
    obtain rfl : i = l0.length := by
      apply Classical.byContradiction; intro hne
      have := hg i (by omega) true
      rw [this] at h1; cases h1
    have hfin : Region.ready .any (l0 ++ [o]).toArray ((listed.push false).setIfInBounds l0.length true) = [] := by
      apply List.eq_nil_iff_forall_not_mem.2
      intro j hj
      obtain ⟨h1, oj, h2, _⟩ := mem_ready.1 hj
      have hlt : j < l0.length + 1 := by
        have := (Array.getElem?_eq_some_iff.1 h2).1
        simpa using this
      by_cases he : j = l0.length
      · subst he; rw [Array.getD_eq_getD_getElem?, Array.getElem?_setIfInBounds_self_of_lt (by simp; omega)] at h1; simp at h1
      · rw [Array.getD_eq_getD_getElem?, Array.getElem?_setIfInBounds_ne (by omega), ← Array.getD_eq_getD_getElem?, hg j (by omega)] at h1; cases h1
    have hx := hQ a w hC hq
    unfold wpListIn at hx
    unfold wpOpIn
    rw [hop]
    have hd := fun a' w' => wpAnyIn_done (F := F.inRound lr) (n := n) (P := P) (md := .any) (ops := (l0 ++ [o]).toArray) (Q := Q) (a := a') (w := w') hfin
    have hw : Region.wanted o (yielded (l0 ++ [o]).toArray a.tmps) = true := by simp [Region.wanted, (plainOp_spec ho).1]
    simp only [hw, if_true] at hx ⊢
    exact Oper.wpIn_mono (fun a' w' h => hd a' w' (by simpa [wpListIn] using h) fuel) hx
  intro fuel
  induction fuel with
  | zero => intro listed a w hs hC h; exact last 0 listed a w hs hC h.1 h.2
  | succ fuel ih =>
    intro listed a w hs hC h
    by_cases hr : Region.ready .any l0.toArray listed = []
    · exact last _ listed a w hs hC hr (h.1 hr)
    · obtain ⟨i0, hi0⟩ := List.exists_mem_of_ne_nil _ hr
      obtain ⟨g1, o0, g2, g3⟩ := mem_ready.1 hi0
      have hi0l : i0 < l0.length := by have := (Array.getElem?_eq_some_iff.1 g2).1; simpa using this
      have hpush : ∀ j, j < l0.length → ∀ d, (listed.push false).getD j d = listed.getD j d := by
        intro j hj d
        rw [Array.getD_eq_getD_getElem?, Array.getElem?_push_lt (by omega), Array.getD_eq_getD_getElem?, Array.getElem?_eq_getElem (by omega)]
      have hops : ∀ j, j < l0.length → (l0 ++ [o]).toArray[j]? = l0.toArray[j]? := by
        intro j hj; simp [List.getElem?_append_left hj]
      have hback : ∀ {j : Nat} {oj : Oper}, l0.toArray[j]? = some oj → plainOp oj = true ∧ ∀ e ∈ oj.after, e.on < j := by
        intro j oj hj
        have := backOnly_spec l0 0 hb j oj (by simpa using hj)
        simpa using this
      refine ⟨fun h0 => ?_, fun i hi => ?_⟩
      · have : i0 ∈ Region.ready .any (l0 ++ [o]).toArray (listed.push false) := mem_ready.2 ⟨by rw [hpush _ hi0l]; exact g1, o0, by rw [hops _ hi0l]; exact g2, fun e he hbd => by
          rw [hpush _ (by have := (hback g2).2 e he; omega)]; exact g3 e he hbd⟩
        rw [h0] at this; cases this
      · obtain ⟨h1, oi, h2, h3⟩ := mem_ready.1 hi
        have hlt : i < l0.length + 1 := by
          have := (Array.getElem?_eq_some_iff.1 h2).1
          simpa using this
        by_cases he : i = l0.length
        · -- it waits for i0, which is not listed
          subst he
          exfalso
          have : oi = o := by simpa using h2.symm
          subst this
          obtain ⟨e, he, heq, hbd⟩ := hall i0 hi0l
          have := h3 e he hbd
          rw [heq, hpush _ hi0l] at this
          rw [Array.getD_eq_getD_getElem?, Array.getElem?_eq_getElem (by omega)] at this g1
          simp at this g1
          rw [this] at g1; cases g1
        · have hil : i < l0.length := by omega
          rw [hops _ hil] at h2
          have hmi : i ∈ Region.ready .any l0.toArray listed := mem_ready.2 ⟨by rw [← hpush _ hil]; exact h1, oi, h2, fun e he hbd => by
            rw [← hpush _ (by have := (hback h2).2 e he; omega)]; exact h3 e he hbd⟩
          obtain ⟨p1, p2⟩ := plainOp_spec (hback h2).1
          refine wpOpIn_turn (ops' := l0.toArray) (by rw [hops _ hil]; exact h2) h2 p1 p2 hro ?_
          refine wpOpIn_of_qOpIn (C := C) hro hC (fun a' w' hC' hK => ?_) (h.2 i hmi)
          have := ih (listed.setIfInBounds i true) a' w' (by simpa using hs) hC' hK
          have e : (listed.push false).setIfInBounds i true = (listed.setIfInBounds i true).push false := by
            apply Array.ext_getElem?
            intro j
            have hi' : i < listed.size := by omega
            rw [Array.getElem?_setIfInBounds, Array.getElem?_push, Array.getElem?_push, Array.getElem?_setIfInBounds, Array.size_setIfInBounds, Array.size_push]
            by_cases h1 : i = j
            · subst h1
              rw [if_pos rfl, if_pos (by omega), if_neg (by omega), if_pos rfl, if_pos hi']
            · rw [if_neg h1, if_neg h1]
          rw [e]
          exact this

/-- ONE WALK OF THE LEXICAL ORDER, THEN THE LAST OPERATION -/
theorem wpIn_region_tail {id : Nat} {a : Act} {w : World} {l l0 : List Oper} {o : Oper} (hro : F.round = none) (hm : P.follows .mixedOrders = true) (hl : l = l0 ++ [o]) (hb : backOnly l0 0 = true) (ho : plainOp o = true)
    (hall : (List.range l0.length).all (fun j => o.after.any fun e => e.on == j && Region.binds .any e) = true) (hon : o.after.all (fun e => e.on < l0.length) = true) (hB : Region.lexB .any l0.toArray = true)
    (h : wpQuietIn F n P l0.toArray (fun w' => ∃ n, w' = w.drewN n) (fun a' => ∀ w', (∃ n, w' = w.drewN n) → wpListIn (F.inRound lr) n P (l0 ++ [o]).toArray Q [o] a' w') l0 a) : (Code.region id l.toArray true).wpIn (F.inRound lr) n P Q a w := by
  subst hl
  simp only [Region.lexB, Bool.and_eq_true] at hB
  refine wpIn_region_any hm ?_
  have hq := wpAnyQIn_lex (F := F) (n := n) (C := fun w' => ∃ n, w' = w.drewN n) (md := .any) hB.1 l0 0 (Array.replicate l0.length false) a (by simp) (by simpa using hB.2) h
  have ht := wpAnyIn_tail (lr := lr) (Q := Q) (o := o) hro hb ho (fun j hj => by
      have := List.all_eq_true.1 hall j (by simpa using hj)
      obtain ⟨e, he, hx⟩ := Array.any_eq_true'.1 this
      rw [Bool.and_eq_true] at hx
      exact ⟨e, he, by simpa using hx.1, hx.2⟩)
    (fun e he => by have := Array.all_eq_true'.1 hon e he; simpa using this) (fun a' w' hC hQa => hQa w' hC) l0.length (Array.replicate l0.length false) a { w with drawn := w.drawn + 1 } (by simp) ⟨1, rfl⟩ hq
  have e : Array.replicate (l0 ++ [o]).toArray.size false = (Array.replicate l0.length false).push false := by
    simp [Array.replicate_succ]
  rw [e]
  simpa using ht
end
end Go.Proofs.Ytfkepkdfpjaniaa
