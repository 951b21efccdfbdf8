/-
  slices.Backward inside a fence, for whatever slice (nil, empty or not) and whatever a round keeps (Kp): the iterator reads the slice's box and the cell of its round anew.
-/
import Derived.Test.YtgoognipljknjaaBack
import Derived.Test.YtgoognipljknjaaPolyD
import Derived.Lib.Hide
namespace Go.Proofs.Ytgoognipljknjaa
open Go.RowKit Go.Shelf
set_option linter.unusedVariables false
attribute [local go_sem] Oper.semAt_some

/-- the places that have come when k rounds are over, the last first -/
def down (n k : Nat) : List Nat := (List.range k).map fun j => n - 1 - j
theorem down_succ (n k : Nat) : down n (k + 1) = down n k ++ [n - 1 - k] := by simp [down, List.range_succ]
theorem down_len (n k : Nat) : (down n k).length = k := by simp [down]
theorem mem_down {n k i : Nat} (h1 : n - k ≤ i) (h2 : i < n) : i ∈ down n k := by
  unfold down
  rw [List.mem_map]
  exact ⟨n - 1 - i, by rw [List.mem_range]; omega, by omega⟩

set_option maxRecDepth 100000 in
set_option maxHeartbeats 2000000 in
theorem backG1_in (F : Fence) (n : Nat) (h8 : F.fn 136) (hro : F.round = none) (hn : 1 ≤ n) (l Bs len cap : Nat) (A : Option Addr) (Rd : Nat → Nat → Prop) (hreach : len ≤ 17592186043904)
    (Kp : World → World → Prop) (hKr : ∀ W, Kp W W) (hKt : ∀ {X Y Z : World}, Kp X Y → Kp Y Z → Kp X Z) (W : World)
    (hrd : ∀ W', Kp W W' → W'.cell? ⟨Bs, 0, none⟩ = some (.slice A len cap) ∧ ∀ j, j < len → ∃ b off x : Nat, A = some ⟨b, off, none⟩ ∧ W'.cell? ⟨b, off + j, none⟩ = some (.int .u64 (x : Nat)) ∧ Rd j x)
    (J Jx : List (Nat × Nat) → World → Prop)
    (hY : ∀ pre (x : Nat × Nat) W, (x.1 < len ∧ Rd x.1 x.2) → J pre W → pre.length < len → YieldAt F (n - 1) Try.prog l #[.int .i64 (x.1 : Nat), .int .u64 (x.2 : Nat)] W fun e W' =>
      (e = .returned (.bool true) ∧ J (pre ++ [x]) W' ∧ Kp W W') ∨ (e = .returned (.bool false) ∧ Jx (pre ++ [x]) W'))
    (h0 : J [] W) :
    CallsIn F n Try.prog 136 #[.func (.yield l) #[] #[], .pointer (some ⟨Bs, 0, none⟩)] W fun e W' => (∃ v, e = .returned v) ∧
      ((∃ ys, ys.map Prod.fst = down len len ∧ J ys W') ∨ (∃ pre, (∃ k, k ≤ len ∧ pre.map Prod.fst = down len k) ∧ Jx pre W')) := by
  have hW0 := (hrd W (hKr W)).1
  refine callsIn_of_wp Try.func136 rfl h8 ?_ hro
  simp only [Try.ntmps136, List.size_toArray, List.length_cons, List.length_nil, Nat.reduceAdd, Nat.reduceSub, Array.replicate_succ, Array.replicate_zero, List.push_toArray, List.append_toArray, List.nil_append, List.cons_append]
  gi_wp2
  gi_loopw [3] (fun i wr => ∃ (k : Nat) (pre : List (Nat × Nat)), k ≤ len ∧ i = .int .i64 ((len : Int) - 1 - k) ∧ pre.map Prod.fst = down len k ∧ J pre wr ∧ Kp W wr)
    (fun i _ => (intOf i + 1).toNat)
  case atStart => exact ⟨0, [], Nat.zero_le _, by go_num, rfl, h0, hKr W⟩
  case round =>
    obtain ⟨k, pre, hk, rfl, hpre, hJs, hnx⟩ := hrel
    have HP := Lib.hid hpre
    have hpl : pre.length = k := by have := congrArg List.length hpre; rw [down_len] at this; simpa using this
    clear hpre
    by_cases hlt : k < len
    · obtain ⟨hbx, hcs⟩ := hrd wr hnx
      obtain ⟨b, off, x, rfl, hcx, hR0⟩ := hcs (len - 1 - k) (by omega)
      obtain ⟨fn, tmps, assign, body, hy, hR⟩ := hY pre (len - 1 - k, x) wr ⟨by dsimp only; omega, hR0⟩ hJs (by omega)
      clear hcs hrd hW0 hpl hR0
      dsimp only at hy
      rw [show ((len - 1 - k : Nat) : Int) = (len : Int) - 1 - k by omega] at hy
      gi_wp2
      refine hR.mono ?_
      rintro e W3 (⟨rfl, hJ3, hk3⟩ | ⟨rfl, hJx3⟩)
      · gi_wp2
        go_roundw
        case rel => exact ⟨k + 1, pre ++ [(len - 1 - k, x)], by omega, by go_num, by rw [down_succ, List.map_append, HP.out]; rfl, hJ3, hKt hnx hk3⟩
        case measure => simp [intOf]; omega
      · gi_wp2
        refine bodyPost_ret (results_none rfl _ _ _) rfl ?_
        exact ⟨⟨_, rfl⟩, .inr ⟨_, ⟨k + 1, by omega, by rw [down_succ, List.map_append, HP.out]; rfl⟩, hJx3⟩⟩
    · obtain rfl : k = len := by omega
      clear hrd hW0 hpl
      gi_wp2
      go_end0
      exact ⟨⟨_, rfl⟩, .inl ⟨_, HP.out, hJs⟩⟩

/-- a place of the slice, and what came of it -/
abbrev Plc (len : Nat) (Rd : Nat → Nat → Prop) := { x : Nat × Nat // x.1 < len ∧ Rd x.1 x.2 }
def fsts {len : Nat} {Rd : Nat → Nat → Prop} (l : List (Plc len Rd)) : List Nat := l.map (·.1.1)
theorem fsts_snoc {len : Nat} {Rd : Nat → Nat → Prop} (l : List (Plc len Rd)) (x : Plc len Rd) : fsts (l ++ [x]) = fsts l ++ [x.1.1] := by simp [fsts]
theorem down_snoc {len : Nat} {Rd : Nat → Nat → Prop} {l : List (Plc len Rd)} {x : Plc len Rd} {k : Nat} (h : fsts (l ++ [x]) = down len k) : ∃ k', k = k' + 1 ∧ fsts l = down len k' ∧ x.1.1 = len - 1 - k' := by
  have hl := congrArg List.length h
  rw [down_len, fsts_snoc] at hl
  simp only [List.length_append, List.length_cons, List.length_nil] at hl
  obtain ⟨k', rfl⟩ : ∃ k', k = k' + 1 := ⟨k - 1, by omega⟩
  rw [down_succ, fsts_snoc] at h
  obtain ⟨e1, e2⟩ := List.append_inj' h rfl
  exact ⟨k', rfl, e1, by simpa using e2⟩
theorem fsts_mem {len : Nat} {Rd : Nat → Nat → Prop} {l : List (Plc len Rd)} {k i : Nat} (h : fsts l = down len k) (h1 : len - k ≤ i) (h2 : i < len) : ∃ y ∈ l, y.1.1 = i := by
  have := mem_down h1 h2
  rw [← h] at this
  unfold fsts at this
  obtain ⟨y, hy, e⟩ := List.mem_map.1 this
  exact ⟨y, hy, e⟩

theorem backG_stops (F : Fence) (n : Nat) (h8 : F.fn 136) (hro : F.round = none) (hn : 1 ≤ n) (Bs len cap : Nat) (A : Option Addr) (Rd : Nat → Nat → Prop) (hreach : len ≤ 17592186043904)
    (Kp : World → World → Prop) (hKr : ∀ W, Kp W W) (hKt : ∀ {X Y Z : World}, Kp X Y → Kp Y Z → Kp X Z) (w : World)
    (hrd : ∀ W W', Below w.heap.size w W → Kp W W' → W'.cell? ⟨Bs, 0, none⟩ = some (.slice A len cap) ∧ ∀ j, j < len → ∃ b off x : Nat, A = some ⟨b, off, none⟩ ∧ W'.cell? ⟨b, off + j, none⟩ = some (.int .u64 (x : Nat)) ∧ Rd j x) :
    SeqStopsK F n Try.prog 136 #[.pointer (some ⟨Bs, 0, none⟩)] (fun x : Plc len Rd => #[Value.int .i64 (x.1.1 : Nat), Value.int .u64 (x.1.2 : Nat)]) Kp (fun ys => fsts ys = down len len)
      (fun pre => ∃ k, k ≤ len ∧ fsts pre = down len k) len w := fun l J Jx W hW _ _ hY h0 => by
  refine (backG1_in F n h8 hro hn l Bs len cap A Rd hreach Kp hKr hKt W (fun W' h => hrd W W' hW h) (fun q V => ∃ ys : List (Plc len Rd), ys.map (·.1) = q ∧ J ys V) (fun q V => ∃ ys : List (Plc len Rd), ys.map (·.1) = q ∧ Jx ys V) ?_ ⟨[], rfl, h0⟩).mono ?_
  · rintro pre x V hx ⟨ys, rfl, hj⟩ hl
    obtain ⟨fn, tmps, assign, body, hy, hR⟩ := hY ys ⟨x, hx⟩ V hj (by simpa using hl)
    refine ⟨fn, tmps, assign, body, hy, hR.mono ?_⟩
    rintro e V' (⟨he, hj', hk⟩ | ⟨he, hj'⟩)
    · exact .inl ⟨he, ⟨_, by simp, hj'⟩, hk⟩
    · exact .inr ⟨he, ⟨_, by simp, hj'⟩⟩
  · rintro e V ⟨he, ⟨ys, hd, zl, rfl, hj⟩ | ⟨pre, ⟨k, hk, hd⟩, zl, rfl, hj⟩⟩
    · exact ⟨he, .inl ⟨zl, by rw [List.map_map] at hd; exact hd, hj⟩⟩
    · exact ⟨he, .inr ⟨zl, ⟨k, hk, by rw [List.map_map] at hd; exact hd⟩, hj⟩⟩
end Go.Proofs.Ytgoognipljknjaa
