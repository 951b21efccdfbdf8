/-
  Ranges over functions: Backward over rows, Chunk; regions in rounds.
-/
import Derived.Test.YtfkepkdfpjaniaaLC
import Derived.Test.YtfkepkdfpjaniaaLex
import Derived.Lib.MinMax
import Derived.Deep.RegionHeld3
namespace Go.Proofs.Ytfkepkdfpjaniaa
open Go.RowKit Go.Shelf
set_option linter.unusedVariables false
attribute [local go_sem] Oper.semAt_some

/-- a slice's three parts -/
abbrev Sl := Option Addr × Nat × Nat
set_option maxHeartbeats 1000000 in
theorem backR_in (F : Fence) (n : Nat) (h5 : F.fn 85) (hro : F.round = none) (a : Option Addr) (len cap : Nat) (w : World) :
    CallsIn F n Try.prog 85 #[.slice a len cap] w fun e w' => e = .returned (.func (.func 102) #[] #[.pointer (some ⟨w.heap.size, 0, none⟩)]) ∧ w' = w.alloc (.cells #[.slice a len cap] 25) := by
  refine callsIn_of_wp Try.func85 rfl h5 ?_ hro
  simp only [Try.ntmps85, List.size_toArray, List.length_cons, List.length_nil, Nat.reduceAdd, Nat.reduceSub, Array.replicate_succ, Array.replicate_zero, List.push_toArray, List.append_toArray, List.nil_append, List.cons_append]
  gi_wp2
  go_ret
  exact ⟨rfl, rfl⟩

set_option maxRecDepth 100000 in
set_option maxHeartbeats 2000000 in
theorem backR1_in (F : Fence) (n : Nat) (h8 : F.fn 102) (hro : F.round = none) (hn : 1 ≤ n) (l Bs len cap : Nat) (A : Option Addr) (Rd : Nat → Sl → Prop) (hreach : len ≤ 17592186043904)
    (Kp : World → World → Prop) (hKr : ∀ W, Kp W W) (hKt : ∀ {X Y Z : World}, Kp X Y → Kp Y Z → Kp X Z) (W : World)
    (hrd : ∀ W', Kp W W' → W'.cell? ⟨Bs, 0, none⟩ = some (.slice A len cap) ∧ ∀ j, j < len → ∃ (b off : Nat) (x : Sl), A = some ⟨b, off, none⟩ ∧ W'.cell? ⟨b, off + j, none⟩ = some (.slice x.1 x.2.1 x.2.2) ∧ Rd j x)
    (J Jx : List (Nat × Sl) → World → Prop)
    (hY : ∀ pre (x : Nat × Sl) W, (x.1 < len ∧ Rd x.1 x.2) → J pre W → pre.length < len → YieldAt F (n - 1) Try.prog l #[.int .i64 (x.1 : Nat), .slice x.2.1 x.2.2.1 x.2.2.2] W fun e W' =>
      (e = .returned (.bool true) ∧ J (pre ++ [x]) W' ∧ Kp W W') ∨ (e = .returned (.bool false) ∧ Jx (pre ++ [x]) W'))
    (h0 : J [] W) :
    CallsIn F n Try.prog 102 #[.func (.yield l) #[] #[], .pointer (some ⟨Bs, 0, none⟩)] W fun e W' => (∃ v, e = .returned v) ∧
      ((∃ ys, ys.map Prod.fst = down len len ∧ J ys W') ∨ (∃ pre, (∃ k, k ≤ len ∧ pre.map Prod.fst = down len k) ∧ Jx pre W')) := by
  have hW0 := (hrd W (hKr W)).1
  refine callsIn_of_wp Try.func102 rfl h8 ?_ hro
  simp only [Try.ntmps102, List.size_toArray, List.length_cons, List.length_nil, Nat.reduceAdd, Nat.reduceSub, Array.replicate_succ, Array.replicate_zero, List.push_toArray, List.append_toArray, List.nil_append, List.cons_append]
  gi_wp2
  gi_loopw [3] (fun i wr => ∃ (k : Nat) (pre : List (Nat × Sl)), k ≤ len ∧ i = .int .i64 ((len : Int) - 1 - k) ∧ pre.map Prod.fst = down len k ∧ J pre wr ∧ Kp W wr)
    (fun i _ => (intOf i + 1).toNat)
  case atStart => exact ⟨0, [], Nat.zero_le _, by go_num, rfl, h0, hKr W⟩
  case round =>
    obtain ⟨k, pre, hk, rfl, hpre, hJs, hnx⟩ := hrel
    have HP := Lib.hid hpre
    have hpl : pre.length = k := by have := congrArg List.length hpre; rw [down_len] at this; simpa using this
    clear hpre
    by_cases hlt : k < len
    · obtain ⟨hbx, hcs⟩ := hrd wr hnx
      obtain ⟨b, off, ⟨Ax, lx, cx⟩, rfl, hcx, hR0⟩ := hcs (len - 1 - k) (by omega)
      obtain ⟨fn, tmps, assign, body, hy, hR⟩ := hY pre (len - 1 - k, (Ax, lx, cx)) wr ⟨by dsimp only; omega, hR0⟩ hJs (by omega)
      clear hcs hrd hW0 hpl hR0
      dsimp only at hy
      rw [show ((len - 1 - k : Nat) : Int) = (len : Int) - 1 - k by omega] at hy
      gi_wp2
      refine hR.mono ?_
      rintro e W3 (⟨rfl, hJ3, hk3⟩ | ⟨rfl, hJx3⟩)
      · gi_wp2
        go_roundw
        case rel => exact ⟨k + 1, pre ++ [(len - 1 - k, (Ax, lx, cx))], by omega, by go_num, by rw [down_succ, List.map_append, HP.out]; rfl, hJ3, hKt hnx hk3⟩
        case measure => simp [intOf]; omega
      · gi_wp2
        refine bodyPost_ret (results_none rfl _ _ _) rfl ?_
        exact ⟨⟨_, rfl⟩, .inr ⟨_, ⟨k + 1, by omega, by rw [down_succ, List.map_append, HP.out]; rfl⟩, hJx3⟩⟩
    · obtain rfl : k = len := by omega
      clear hrd hW0 hpl
      gi_wp2
      go_end0
      exact ⟨⟨_, rfl⟩, .inl ⟨_, HP.out, hJs⟩⟩

/-- a place of the slice, and what came of it -/
abbrev PlcR (len : Nat) (Rd : Nat → Sl → Prop) := { x : Nat × Sl // x.1 < len ∧ Rd x.1 x.2 }
def fstsR {len : Nat} {Rd : Nat → Sl → Prop} (l : List (PlcR len Rd)) : List Nat := l.map (·.1.1)
theorem fstsR_snoc {len : Nat} {Rd : Nat → Sl → Prop} (l : List (PlcR len Rd)) (x : PlcR len Rd) : fstsR (l ++ [x]) = fstsR l ++ [x.1.1] := by simp [fstsR]
theorem downR_snoc {len : Nat} {Rd : Nat → Sl → Prop} {l : List (PlcR len Rd)} {x : PlcR len Rd} {k : Nat} (h : fstsR (l ++ [x]) = down len k) : ∃ k', k = k' + 1 ∧ fstsR l = down len k' ∧ x.1.1 = len - 1 - k' := by
  have hl := congrArg List.length h
  rw [down_len, fstsR_snoc] at hl
  simp only [List.length_append, List.length_cons, List.length_nil] at hl
  obtain ⟨k', rfl⟩ : ∃ k', k = k' + 1 := ⟨k - 1, by omega⟩
  rw [down_succ, fstsR_snoc] at h
  obtain ⟨e1, e2⟩ := List.append_inj' h rfl
  exact ⟨k', rfl, e1, by simpa using e2⟩
theorem fstsR_mem {len : Nat} {Rd : Nat → Sl → Prop} {l : List (PlcR len Rd)} {k i : Nat} (h : fstsR l = down len k) (h1 : len - k ≤ i) (h2 : i < len) : ∃ y ∈ l, y.1.1 = i := by
  have := mem_down h1 h2
  rw [← h] at this
  unfold fstsR at this
  obtain ⟨y, hy, e⟩ := List.mem_map.1 this
  exact ⟨y, hy, e⟩

theorem backR_stops (F : Fence) (n : Nat) (h8 : F.fn 102) (hro : F.round = none) (hn : 1 ≤ n) (Bs len cap : Nat) (A : Option Addr) (Rd : Nat → Sl → Prop) (hreach : len ≤ 17592186043904)
    (Kp : World → World → Prop) (hKr : ∀ W, Kp W W) (hKt : ∀ {X Y Z : World}, Kp X Y → Kp Y Z → Kp X Z) (w : World)
    (hrd : ∀ W W', Below w.heap.size w W → Kp W W' → W'.cell? ⟨Bs, 0, none⟩ = some (.slice A len cap) ∧ ∀ j, j < len → ∃ (b off : Nat) (x : Sl), A = some ⟨b, off, none⟩ ∧ W'.cell? ⟨b, off + j, none⟩ = some (.slice x.1 x.2.1 x.2.2) ∧ Rd j x) :
    SeqStopsK F n Try.prog 102 #[.pointer (some ⟨Bs, 0, none⟩)] (fun x : PlcR len Rd => #[Value.int .i64 (x.1.1 : Nat), Value.slice x.1.2.1 x.1.2.2.1 x.1.2.2.2]) Kp (fun ys => fstsR ys = down len len)
      (fun pre => ∃ k, k ≤ len ∧ fstsR pre = down len k) len w := fun l J Jx W hW _ _ hY h0 => by
  refine (backR1_in F n h8 hro hn l Bs len cap A Rd hreach Kp hKr hKt W (fun W' h => hrd W W' hW h) (fun q V => ∃ ys : List (PlcR len Rd), ys.map (·.1) = q ∧ J ys V) (fun q V => ∃ ys : List (PlcR len Rd), ys.map (·.1) = q ∧ Jx ys V) ?_ ⟨[], rfl, h0⟩).mono ?_
  · rintro pre x V hx ⟨ys, rfl, hj⟩ hl
    obtain ⟨fn, tmps, assign, body, hy, hR⟩ := hY ys ⟨x, hx⟩ V hj (by simpa using hl)
    refine ⟨fn, tmps, assign, body, hy, hR.mono ?_⟩
    rintro e V' (⟨he, hj', hk⟩ | ⟨he, hj'⟩)
    · exact .inl ⟨he, ⟨_, by simp, hj'⟩, hk⟩
    · exact .inr ⟨he, ⟨_, by simp, hj'⟩⟩
  · rintro e V ⟨he, ⟨ys, hd, zl, rfl, hj⟩ | ⟨pre, ⟨k, hk, hd⟩, zl, rfl, hj⟩⟩
    · exact ⟨he, .inl ⟨zl, by rw [List.map_map] at hd; exact hd, hj⟩⟩
    · exact ⟨he, .inr ⟨zl, ⟨k, hk, by rw [List.map_map] at hd; exact hd⟩, hj⟩⟩
end Go.Proofs.Ytfkepkdfpjaniaa
namespace Go.Proofs.Ytfkepkdfpjaniaa
section
variable {P : Program} {ops : Array Oper} {md : Region.Mode} {Q : Exit → Act → World → Prop} {S : World → Prop}

/-- Q, but nothing is let out -/
def noOut (Q : Exit → Act → World → Prop) : Exit → Act → World → Prop
  | .outgrown, _, _ => False
  | e, a, w => Q e a w
theorem noOut_le (e : Exit) (a : Act) (w : World) (h : noOut Q e a w) : Q e a w := by
  cases e <;> first | exact h | exact h.elim
theorem noOut_not : ¬ LetsOut (noOut Q) := fun ⟨_, _, h⟩ => h
/-- no operation is a defer statement -/
def noDefer (ops : Array Oper) : Bool := ops.all fun o => match o.op with | .defer _ => false | _ => true
theorem noDefer_spec {ops : Array Oper} (h : noDefer ops = true) {i : Nat} {o : Oper} (hi : ops[i]? = some o) : ∀ c, o.op ≠ .defer c := by
  intro c e
  have hm : o ∈ ops := by
    rw [Array.mem_iff_getElem?]; exact ⟨i, hi⟩
  have := Array.all_eq_true'.1 h o hm
  simp only [e] at this
  cases this
theorem rowsIn_wide7 {n : Nat} {row : String} {args : Array Value} {w : World} {R : Value → World → Prop} (h : Rows P row args w R) : RowsIn Fence.wide n P row args w R :=
  fun c cs _ => let ⟨v, w', r, s⟩ := h c cs; ⟨v, w', r, stepsIn_wide.2 s⟩
theorem wpIn_of_wp7 {o : Oper} {lr n : Nat} {a : Act} {w : World} {K : Act → World → Prop} (hd : ∀ c, o.op ≠ .defer c) (h : o.wp P a w K Q) : o.wpIn (Fence.wide.inRound lr) n P a w K Q := by
  refine ⟨fun _ _ => trivial, ?_⟩
  unfold Oper.wp at h
  rw [Oper.semAt_eq _ _ _ hd]
  generalize (execOp a.eval o).run P w = r at *
  have hdep : ∀ {m : Nat}, (Fence.wide.inRound lr).depth.isSome = true → 1 ≤ m := fun h => by cases h
  cases r with
  | ok x w' =>
    cases x <;> simp only [Oper.upon, Oper.uponIn] at h ⊢ <;>
      first
        | exact h
        | exact ⟨hdep, callsIn_wide.2 h⟩
        | exact ⟨hdep, rowsIn_wide7 h⟩
        | exact h.elim
  | halt x w' => cases x <;> simp only [Oper.upon, Oper.uponIn] at h ⊢ <;> first | exact h | exact h.elim
theorem wpAnyIn_of_wpAny7 {lr n : Nat} (hd : noDefer ops = true) (hQ : ¬ LetsOut Q) : ∀ (fuel : Nat) (listed : Array Bool) (a : Act) (w : World), wpAny P md ops Q fuel listed a w → wpAnyIn (Fence.wide.inRound lr) n P md ops Q fuel listed a w
  | 0, _, _, _, h => h
  | fuel + 1, listed, a, w, h => ⟨h.1, fun i hi => by
    have h2 := wpOp_mono (fun a' w' h' => wpAnyIn_of_wpAny7 (lr := lr) (n := n) hd hQ fuel _ a' w' h') (h.2 i hi)
    unfold wpOp at h2
    unfold wpOpIn
    cases ho : ops[i]? with
    | none => rw [ho] at h2; exact h2
    | some o =>
      rw [ho] at h2
      simp only at h2 ⊢
      split
      · rename_i hw
        rw [if_pos hw] at h2
        rcases h2 with h3 | ⟨_, h3⟩
        · exact wpIn_of_wp7 (noDefer_spec hd ho) h3
        · exact absurd h3 hQ
      · rename_i hw
        rw [if_neg hw] at h2
        exact ⟨fun _ _ => trivial, h2⟩⟩
theorem wpIn_region_lexR {lr n id : Nat} {l : List Oper} {a : Act} {w : World} (hm : P.follows .mixedOrders = true) (hB : Region.lexB .any l.toArray = true) (hd : noDefer l.toArray = true) (hQ : ∀ (n : Nat) v c a w, Q (.panic c) (a.put (some n) v) w → Q (.panic c) a w) (hS : S w.drew)
    (h : LexH P .any l.toArray (noOut Q) S l 0 a w.drew) : (Code.region id l.toArray true).wpIn (Fence.wide.inRound lr) n P Q a w := by
  simp only [Region.lexB, Bool.and_eq_true] at hB
  have h1 := h (fun j => by simp) hB.1 (by simpa [lexUp] using hB.2) (fun n v c a w hh => hQ n v c a w hh) hS
  refine wpIn_mono (wpIn_region_any hm (wpAnyIn_of_wpAny7 hd noOut_not _ _ _ _ (wpAny_of_held (S := S) _ _ _ _ ?_))) noOut_le
  simpa [lexUp] using h1
end
end Go.Proofs.Ytfkepkdfpjaniaa
namespace Go.Proofs.Ytfkepkdfpjaniaa
open Go.RowKit Go.Shelf
set_option linter.unusedVariables false
attribute [local go_sem] Oper.semAt_some

set_option maxHeartbeats 1000000 in
theorem chunk_in (F : Fence) (n : Nat) (h5 : F.fn 52) (hro : F.round = none) (a : Option Addr) (len cap k : Nat) (hk : 1 ≤ k) (w : World) :
    CallsIn F n Try.prog 52 #[.slice a len cap, .int .i64 k] w fun e w' => e = .returned (.func (.func 82) #[] #[.pointer (some ⟨w.heap.size, 0, none⟩), .pointer (some ⟨w.heap.size + 1, 0, none⟩)]) ∧ w' = (w.alloc (.cells #[.slice a len cap] 31)).alloc (.cells #[.int .i64 k] 3) := by
  have hd : decide ((k : Int) < 1) = false := by rw [decide_eq_false_iff_not]; omega
  refine callsIn_of_wp Try.func52 rfl h5 ?_ hro
  simp only [Try.ntmps52, List.size_toArray, List.length_cons, List.length_nil, Nat.reduceAdd, Nat.reduceSub, Array.replicate_succ, Array.replicate_zero, List.push_toArray, List.append_toArray, List.nil_append, List.cons_append]
  gi_wp2
  go_ret
  exact ⟨rfl, rfl⟩

set_option maxRecDepth 100000 in
set_option maxHeartbeats 2000000 in
theorem chunk1_in (n : Nat) (l Bs Bn b off k R cap : Nat) (hk : 1 ≤ k) (hk4 : k ≤ 1000) (hR : R ≤ 1000) (hcap : R * k ≤ cap)
    (Kp : World → World → Prop) (hKr : ∀ W, Kp W W) (hKt : ∀ {X Y Z : World}, Kp X Y → Kp Y Z → Kp X Z) (hKd : ∀ W W' : World, Kp W W' → Kp W W'.drew) (W : World)
    (hrd : ∀ W', Kp W W' → W'.cell? ⟨Bs, 0, none⟩ = some (.slice (some ⟨b, off, none⟩) (R * k) cap) ∧ W'.cell? ⟨Bn, 0, none⟩ = some (.int .i64 k))
    (J Jx : List Nat → World → Prop) (hJd : ∀ pre W, J pre W → J pre W.drew)
    (hY : ∀ pre (x : Nat) W, x < R → J pre W → pre.length < R → YieldAt Fence.wide (n - 1) Try.prog l #[.slice (some ⟨b, off + x * k, none⟩) k k] W fun e W' =>
      (e = .returned (.bool true) ∧ J (pre ++ [x]) W' ∧ Kp W W') ∨ (e = .returned (.bool false) ∧ Jx (pre ++ [x]) W'))
    (h0 : J [] W) :
    CallsIn Fence.wide n Try.prog 82 #[.func (.yield l) #[] #[], .pointer (some ⟨Bs, 0, none⟩), .pointer (some ⟨Bn, 0, none⟩)] W fun e W' => (∃ v, e = .returned v) ∧
      ((∃ ys, ys = List.range R ∧ J ys W') ∨ (∃ pre, (∃ j, j ≤ R ∧ pre = List.range j) ∧ Jx pre W')) := by
  have hW0 := hrd W (hKr W)
  obtain ⟨Len, eLen⟩ : ∃ Len, Len = R * k := ⟨_, rfl⟩
  have hLen : Len ≤ 1000000 := by rw [eLen]; exact Nat.mul_le_mul hR hk4
  rw [← eLen] at hrd hcap hW0
  have ELEN := Lib.hid eLen
  clear eLen
  refine callsIn_of_wp Try.func82 rfl trivial ?_ rfl
  simp only [Try.ntmps82, List.size_toArray, List.length_cons, List.length_nil, Nat.reduceAdd, Nat.reduceSub, Array.replicate_succ, Array.replicate_zero, List.push_toArray, List.append_toArray, List.nil_append, List.cons_append]
  gi_wp2
  have HRD := Lib.hid hrd
  gi_loopw [4] (fun ti wr => ∃ (x I : Nat), I = x * k ∧ x ≤ R ∧ ti = .int .i64 I ∧ J (List.range x) wr ∧ Kp W wr)
    (fun ti _ => (Len - intOf ti).toNat)
  case atStart => exact ⟨0, 0, by omega, Nat.zero_le _, rfl, h0, hKr W⟩
  case round =>
    obtain ⟨x, I, eI, hx, rfl, hJs, hnx⟩ := hrel
    by_cases hlt : x < R
    · have hIL : I + k ≤ Len := by
        have : (x + 1) * k ≤ R * k := Nat.mul_le_mul_right k hlt
        rw [eI, ELEN.out]; rw [Nat.add_mul] at this; omega
      obtain ⟨hbx, hbn⟩ := hrd wr hnx
      have hmin : min (k : Int) ((Len - I : Nat) : Int) = (k : Int) := by omega
      have w1 : IntKind.i64.wrap ((I : Int) + k) = ((I + k : Nat) : Int) := by rw [IntKind.wrap_i64]; omega
      have hi1 : I ≤ Len := by omega
      have hi2 : ¬ cap = I := by omega
      have EI := Lib.hid eI
      clear hrd hW0 eI
      gi_wp2
      refine wpIn_wide.2 ?_
      go_region_held3 (fun W' => W'.cell? ⟨Bs, 0, none⟩ = some (.slice (some ⟨b, off, none⟩) Len cap) ∧ W'.cell? ⟨Bn, 0, none⟩ = some (.int .i64 k))
        (first | exact ⟨hbx, hbn⟩ | go_keep) (fail)
      obtain ⟨fn, tmps, assign, body, hy, hR2⟩ := hY (List.range x) x wr.drew hlt (hJd _ _ hJs) (by simpa using hlt)
      rw [← EI.out] at hy
      have hbx2 : wr.drew.cell? ⟨Bs, 0, none⟩ = some (.slice (some ⟨b, off, none⟩) Len cap) := hbx
      have hbn2 : wr.drew.cell? ⟨Bn, 0, none⟩ = some (.int .i64 k) := hbn
      gi_wp2
      refine ⟨fun h => (by cases h), hR2.mono ?_⟩
      rintro e W3 (⟨rfl, hJ3, hk3⟩ | ⟨rfl, hJx3⟩)
      · have hnx3 := hKt (hKd _ _ hnx) hk3
        obtain ⟨_, hbn3⟩ := HRD.out W3 hnx3
        gi_wp2
        go_roundw
        case rel => exact ⟨x + 1, I + k, by rw [EI.out, Nat.add_mul, Nat.one_mul], by omega, by go_num, by rw [List.range_succ]; exact hJ3, hnx3⟩
        case measure => simp [intOf]; omega
      · gi_wp2
        refine bodyPost_ret (results_none rfl _ _ _) rfl ?_
        exact ⟨⟨_, rfl⟩, .inr ⟨_, ⟨x + 1, by omega, by rw [List.range_succ]⟩, hJx3⟩⟩
    · obtain rfl : x = R := by omega
      have hIL : ¬ I < Len := by rw [eI, ELEN.out]; omega
      obtain ⟨hbx, hbn⟩ := hrd wr hnx
      clear hrd hW0
      gi_wp2
      go_end0
      exact ⟨⟨_, rfl⟩, .inl ⟨_, rfl, hJs⟩⟩

/-- a chunk's number -/
abbrev Ch (R : Nat) := { x : Nat // x < R }
def chs {R : Nat} (l : List (Ch R)) : List Nat := l.map (·.1)
theorem chs_snoc {R : Nat} (l : List (Ch R)) (x : Ch R) : chs (l ++ [x]) = chs l ++ [x.1] := by simp [chs]
theorem range_snoc {R : Nat} {l : List (Ch R)} {x : Ch R} {j : Nat} (h : chs (l ++ [x]) = List.range j) : ∃ j', j = j' + 1 ∧ chs l = List.range j' ∧ x.1 = j' := by
  have hl := congrArg List.length h
  rw [List.length_range, chs_snoc] at hl
  simp only [List.length_append, List.length_cons, List.length_nil] at hl
  obtain ⟨j', rfl⟩ : ∃ j', j = j' + 1 := ⟨j - 1, by omega⟩
  rw [List.range_succ, chs_snoc] at h
  obtain ⟨e1, e2⟩ := List.append_inj' h rfl
  exact ⟨j', rfl, e1, by simpa using e2⟩
theorem chunk_stops (n : Nat) (Bs Bn b off k R cap : Nat) (hk : 1 ≤ k) (hk4 : k ≤ 1000) (hR : R ≤ 1000) (hcap : R * k ≤ cap)
    (Kp : World → World → Prop) (hKr : ∀ W, Kp W W) (hKt : ∀ {X Y Z : World}, Kp X Y → Kp Y Z → Kp X Z) (hKd : ∀ W W' : World, Kp W W' → Kp W W'.drew) (w : World)
    (hrd : ∀ W W', Below w.heap.size w W → Kp W W' → W'.cell? ⟨Bs, 0, none⟩ = some (.slice (some ⟨b, off, none⟩) (R * k) cap) ∧ W'.cell? ⟨Bn, 0, none⟩ = some (.int .i64 k)) :
    SeqStopsK Fence.wide n Try.prog 82 #[.pointer (some ⟨Bs, 0, none⟩), .pointer (some ⟨Bn, 0, none⟩)] (fun x : Ch R => #[Value.slice (some ⟨b, off + x.1 * k, none⟩) k k]) Kp (fun ys => chs ys = List.range R)
      (fun pre => ∃ j, j ≤ R ∧ chs pre = List.range j) R w := fun l J Jx W hW hJ _ hY h0 => by
  refine (chunk1_in n l Bs Bn b off k R cap hk hk4 hR hcap Kp hKr hKt hKd W (fun W' h => hrd W W' hW h) (fun q V => ∃ ys : List (Ch R), chs ys = q ∧ J ys V) (fun q V => ∃ ys : List (Ch R), chs ys = q ∧ Jx ys V) ?_ ?_ ⟨[], rfl, h0⟩).mono ?_
  · rintro pre V ⟨ys, rfl, hj⟩
    exact ⟨ys, rfl, hJ _ _ _ none hj ⟨rfl, rfl, rfl, Nat.le_refl _, fun _ _ _ => rfl⟩ (fun r e => by cases e)⟩
  · rintro pre x V hx ⟨ys, rfl, hj⟩ hl
    obtain ⟨fn, tmps, assign, body, hy, hR⟩ := hY ys ⟨x, hx⟩ V hj (by simpa [chs] using hl)
    refine ⟨fn, tmps, assign, body, hy, hR.mono ?_⟩
    rintro e V' (⟨he, hj', hk⟩ | ⟨he, hj'⟩)
    · exact .inl ⟨he, ⟨_, by simp [chs], hj'⟩, hk⟩
    · exact .inr ⟨he, ⟨_, by simp [chs], hj'⟩⟩
  · rintro e V ⟨he, ⟨ys, rfl, zl, hd, hj⟩ | ⟨pre, ⟨j, hj, rfl⟩, zl, hd, hjx⟩⟩
    · exact ⟨he, .inl ⟨zl, hd, hj⟩⟩
    · exact ⟨he, .inr ⟨zl, ⟨j, hj, hd⟩, hjx⟩⟩
end Go.Proofs.Ytfkepkdfpjaniaa
