/-
  P1, Inv, Row, InvOk (joined).
-/
import Derived.Test.YtfkepkdfpjaniaaLB
import Derived.Test.YtfkepkdfpjaniaaMA
import Derived.Test.YtfkepkdfpjaniaaLC
import Derived.Test.YtfkepkdfpjaniaaMB
import Derived.Laws.OwnMore
namespace Go.Proofs.Ytfkepkdfpjaniaa
open Go.RowKit
set_option linter.unusedVariables false

/-- where the numbers lie, if there are any -/
def Cells (w : World) (A : Option Addr) (zs : List Nat) : Prop :=
  0 < zs.length → ∃ b off, A = some ⟨b, off, none⟩ ∧ b < w.heap.size ∧ ∀ i, i < zs.length → w.cell? ⟨b, off + i, none⟩ = some (.int .u64 (zs.getD i 0))
theorem nums_view {w : World} {v : Value} {zs : List Nat} (h : Nums w v zs) : ∃ A cap, v = .slice A zs.length cap ∧ zs.length ≤ cap ∧ zs.length ≤ 17592186043904 ∧ Cells w A zs := by
  obtain ⟨h1, h2, h3⟩ := h
  rcases h3 with ⟨a, cap, rfl, rfl, _⟩ | ⟨b, off, cap, rfl, hc, hb, hcell⟩
  · exact ⟨_, _, rfl, Nat.zero_le _, h2, fun h => absurd h (by simp)⟩
  · exact ⟨_, _, rfl, hc, h2, fun _ => ⟨b, off, rfl, hb, hcell⟩⟩
theorem Cells.below {w w' : World} {A : Option Addr} {zs : List Nat} (h : Cells w A zs) {B : Nat} (hB : w.heap.size ≤ B) (hb : Below B w w') : Cells w' A zs := fun h0 => by
  obtain ⟨b, off, rfl, hl, hc⟩ := h h0
  exact ⟨b, off, rfl, Nat.lt_of_lt_of_le hl hb.size, fun i hi => (hb.cell (p := ⟨b, off + i, none⟩) (Nat.lt_of_lt_of_le hl hB)).trans (hc i hi)⟩

namespace M
/-- what the checks of package poly answer: 0, 2 (ErrArg) or 3 (ErrLimit) -/
def chk (p : Nat) (zs : List Nat) (limit : Nat) : Int := if isP p = false then 2 else if limit < zs.length then 3 else if within p zs = true then 0 else 2
theorem chk_ok {p : Nat} {zs : List Nat} {limit : Nat} (h : chk p zs limit = 0) : isP p = true ∧ zs.length ≤ limit ∧ within p zs = true := by
  unfold chk at h
  split at h
  · cases h
  · split at h
    · cases h
    · split at h
      · rename_i h1 h2 h3; exact ⟨by simpa using h1, by omega, h3⟩
      · cases h
theorem chk_no {p : Nat} (zs : List Nat) (limit : Nat) (h : isP p = false) : 2 = chk p zs limit := by unfold chk; rw [if_pos h]
theorem chk_long {p : Nat} {zs : List Nat} {limit : Nat} (h : isP p = true) (hl : limit < zs.length) : 3 = chk p zs limit := by unfold chk; rw [if_neg (by simp [h]), if_pos hl]
theorem chk_out {p : Nat} {zs : List Nat} {limit : Nat} (h : isP p = true) (hl : ¬ limit < zs.length) (hw : within p zs = false) : 2 = chk p zs limit := by unfold chk; rw [if_neg (by simp [h]), if_neg hl, if_neg (by simp [hw])]
theorem chk_of {p : Nat} {zs : List Nat} {limit : Nat} (h1 : isP p = true) (h2 : zs.length ≤ limit) (h3 : within p zs = true) : chk p zs limit = 0 := by
  unfold chk; rw [if_neg (by simp [h1]), if_neg (by omega), if_pos h3]
end M

set_option maxHeartbeats 400000 in
theorem check_any (p : Nat) (v : Value) (zs : List Nat) (limit : Nat) (w : World) (hp : p < 18446744073709551616) (hlim : limit ≤ 1000) (hv : Nums w v zs) :
    Calls Try.prog 88 #[.int .u64 p, v, .int .i64 limit] w fun e w' => e = .returned (.int .i64 (M.chk p zs limit)) ∧ w = w' := by
  obtain ⟨A, cap, rfl, hcap, hlen, hC⟩ := nums_view hv
  have hc := is_any p w hp
  have HV := Lib.hid hC
  clear hv hC hcap
  cases hi : M.isP p with
  | false =>
    rw [hi] at hc
    have HC := Lib.hid hc
    have HI := Lib.hid hi
    clear hi hc hp
    go_enter Try.func88, Try.ntmps88
    go_wp2_with (go_at_call 75; refine HC.out.mono ?_; rintro e w' ⟨rfl, rfl⟩)
    go_ret
    exact ⟨ret1 (M.chk_no _ _ HI.out), rfl⟩
  | true =>
    rw [hi] at hc
    have HC := Lib.hid hc
    have HI := Lib.hid hi
    clear hi hc
    by_cases hL : limit < zs.length
    · go_enter Try.func88, Try.ntmps88
      go_wp2_with (go_at_call 75; refine HC.out.mono ?_; rintro e w' ⟨rfl, rfl⟩)
      go_ret
      exact ⟨ret1 (M.chk_long HI.out hL), rfl⟩
    · go_enter Try.func88, Try.ntmps88
      go_wp2_with (go_at_call 75; refine HC.out.mono ?_; rintro e w' ⟨rfl, rfl⟩)
      go_loop [18] (fun t => ∃ k : Nat, k ≤ zs.length ∧ t = .int .i64 k ∧ M.within p (zs.take k) = true) (fun t => zs.length - (intOf t).toNat)
      case atStart => exact ⟨0, by omega, rfl, by simp [M.within]⟩
      case round =>
        obtain ⟨k, hk, rfl, hw⟩ := hrel
        have HW := Lib.hid hw
        clear hw
        by_cases hlt : k < zs.length
        · obtain ⟨b, off, rfl, hb, hcell⟩ := HV.out (by omega)
          have hc := hcell k hlt
          obtain ⟨x, hx⟩ : ∃ x, x = zs.getD k 0 := ⟨_, rfl⟩
          rw [← hx] at hc
          have HX := Lib.hid hx
          clear hx hcell
          by_cases hpx : p ≤ x
          · go_wp2
            go_ret
            exact ⟨ret1 (M.chk_out HI.out hL (M.within_not hlt (by rw [← HX.out]; exact hpx))), rfl⟩
          · have hxp : x < p := by omega
            go_wp2
            go_round
            case rel => exact ⟨k + 1, by omega, by go_num, M.within_take hlt HW.out (by rw [← HX.out]; exact hxp)⟩
            case measure => simp [intOf]; omega
        · go_wp2
          go_ret
          have hk' : k = zs.length := by omega
          have h := HW.out
          rw [hk', List.take_length] at h
          exact ⟨ret1 (M.chk_of HI.out (by omega) h).symm, rfl⟩

set_option maxHeartbeats 400000 in
theorem term_any (v : Value) (zs : List Nat) (i : Nat) (w : World) (hi : i ≤ 4294967296) (hv : Nums w v zs) :
    Calls Try.prog 114 #[v, .int .i64 i] w fun e w' => e = .returned (.int .u64 (zs.getD i 0 : Nat)) ∧ w = w' := by
  obtain ⟨A, cap, rfl, hcap, hlen, hC⟩ := nums_view hv
  clear hv hcap
  by_cases hlt : i < zs.length
  · obtain ⟨b, off, rfl, hb, hcell⟩ := hC (by omega)
    have hc := hcell i hlt
    obtain ⟨x, hx⟩ : ∃ x, x = zs.getD i 0 := ⟨_, rfl⟩
    rw [← hx] at hc ⊢
    clear hx hcell hC
    go_enter Try.func114, Try.ntmps114
    go_wp2
    go_ret
    exact ⟨rfl, rfl⟩
  · rw [M.getD_ge (by omega)]
    clear hC
    go_enter Try.func114, Try.ntmps114
    go_wp2
    go_ret
    exact ⟨rfl, rfl⟩

set_option maxHeartbeats 400000 in
theorem pinv_any (p a : Nat) (w : World) (hv : M.validB p [a] = true) (h0 : a ≠ 0) :
    Calls Try.prog 111 #[.int .u64 p, .int .u64 a] w fun e w' => e = .returned (.int .u64 (M.pw p a (p - 2))) ∧ Below w.heap.size w w' := by
  have HC := Lib.hid (inv_ok p a w hv h0)
  clear hv h0
  go_enter Try.func111, Try.ntmps111
  go_wp2_with fail
  refine HC.out.mono ?_
  rintro e w1 ⟨rfl, hb⟩
  have HB := Lib.hid hb
  clear hb
  go_wp2_with fail
  go_ret
  exact ⟨rfl, HB.out⟩

set_option maxHeartbeats 400000 in
theorem linear_any (p r : Nat) (w : World) (hp : p ≤ 65537) (hr : r < p) :
    Calls Try.prog 113 #[.int .u64 p, .int .u64 r] w fun e w' => e = .returned (.slice (some ⟨w.heap.size, 0, none⟩) 2 2) ∧ w' = w.alloc (.cells #[.int .u64 ((p - r) % p : Nat), .int .u64 (1 : Nat)] 22) := by
  go_enter Try.func113, Try.ntmps113
  go_wp2
  go_ret
  have e : (-(r : Int)) % p = (((p - r) % p : Nat) : Int) := by rw [Int.natCast_emod, Int.natCast_sub (by omega)]; simp
  exact ⟨rfl, by rw [e]; rfl⟩

end Go.Proofs.Ytfkepkdfpjaniaa
namespace Go.Proofs.Ytfkepkdfpjaniaa
open Go.RowKit Go.Shelf
set_option linter.unusedVariables false
attribute [local go_sem] Oper.semAt_some

theorem wpListIn_make_full {F : Fence} {n : Nat} {P : Program} (w : World) {ops : Array Oper} {rest : List Oper} {o : Oper} {a : Act} {Q : Exit → Act → World → Prop}
    (hg : o.guard = none) (l c : Operand) (t : TypeId) (hop : o.op = Op.makeSlice t l c)
    (e : TypeId) (i : TypeInfo) (z : Value) (h1 : P.underlying t = some (.slice e)) (h2 : P.info? e = some i) (h3 : i.zero = some z) (h4 : i.size = 1) (hzc : z.cells = #[z])
    (kl kc : IntKind) (m : Nat) (hl : a.eval l = .int kl m) (hc : a.eval c = .int kc m) (b2 : i.bytes * m ≤ 281474976710656) (b3 : m ≤ 9223372036854775807)
    (hK : ∀ cs : Array Value, cs.toList = List.replicate m z → wpListIn F n P ops Q rest (a.put o.dst (.slice (some ⟨w.heap.size, 0, none⟩) m m)) (w.alloc (.cells cs e))) :
    wpListIn F n P ops Q (o :: rest) a w := by
  refine wpListIn_plain hg fun K hK' => ?_
  have hb' : (i.bytes : Int) * (m : Int) ≤ 281474976710656 := by
    have h : ((i.bytes * m : Nat) : Int) ≤ 281474976710656 := by omega
    rwa [Int.natCast_mul] at h
  have hrun := run_make (P := P) w t e i z h1 h2 h3 kl kc m m (by omega) (Int.le_refl _) hb' (by omega)
  rw [h4, hzc] at hrun
  simp only [Int.toNat_natCast, Nat.mul_one] at hrun
  unfold Oper.wpIn
  refine ⟨?_, ?_⟩
  · simp [Oper.about, hop]
  · rw [Oper.semAt_plain F _ _ (by rw [hop]; intro c hc'; cases hc')]
    simp [execOp, hop, hl, hc, hrun, Result.andThen]
    exact hK' _ _ (hK _ (toList_madeCells_one z m))

theorem cellAl {w : World} {a : Addr} {v : Value} (o : Obj) (h : w.cell? a = some v) : (w.alloc o).cell? a = some v := cell_kept h (World.grownBy_alloc w o none) (by simp)
theorem frozenAl {w : World} {a : Addr} {v : Value} (o : Obj) (h : w.cell? a = some v) (h2 : w.frozen? a = false) : (w.alloc o).frozen? a = false := (frozen_kept h (World.grownBy_alloc w o none) (by simp)).trans h2
/-- where the made row, its length and what it holds lie -/
def St (B n p : Nat) (f : Nat → Nat) (W : World) : Prop :=
  (W.cell? ⟨B, 0, none⟩ = some (.int .u64 p) ∧ W.cell? ⟨B + 2, 0, none⟩ = some (.slice (some ⟨B + 1, 0, none⟩) n n)) ∧ ∀ i, i < n → W.cell? ⟨B + 1, i, none⟩ = some (.int .u64 (f i)) ∧ W.frozen? ⟨B + 1, i, none⟩ = false
theorem St.set {B n p : Nat} {f : Nat → Nat} {W : World} (h : St B n p f W) {i x : Nat} (hi : i < n) : St B n p (fun j => if j = i then x else f j) (W.setCell ⟨B + 1, i, none⟩ (.int .u64 x)) := by
  refine ⟨⟨?_, ?_⟩, fun j hj => ⟨?_, ?_⟩⟩
  · rw [World.cell?_setCell_other _ _ _ _ (by intro e; simp at e)]; exact h.1.1
  · rw [World.cell?_setCell_other _ _ _ _ (by intro e; simp at e)]; exact h.1.2
  · by_cases e : j = i
    · subst e; simpa using World.cell?_setCell_same _ _ _ (h.2 j hj).1
    · rw [World.cell?_setCell_other _ _ _ _ (by intro e'; have := congrArg Addr.off e'; simp at this; omega)]; simpa [e] using (h.2 j hj).1
  · rw [World.frozen?_setCell]; exact (h.2 j hj).2
theorem St.other {B n p b : Nat} {f : Nat → Nat} {W : World} (h : St B n p f W) (hb : B + 2 < b) (i : Nat) (u : Value) : St B n p f (W.setCell ⟨b, i, none⟩ u) := by
  refine ⟨⟨?_, ?_⟩, fun j hj => ⟨?_, ?_⟩⟩
  · rw [World.cell?_setCell_other _ _ _ _ (by intro e; have := congrArg Addr.block e; simp at this; omega)]; exact h.1.1
  · rw [World.cell?_setCell_other _ _ _ _ (by intro e; have := congrArg Addr.block e; simp at this; omega)]; exact h.1.2
  · rw [World.cell?_setCell_other _ _ _ _ (by intro e; have := congrArg Addr.block e; simp at this; omega)]; exact (h.2 j hj).1
  · rw [World.frozen?_setCell]; exact (h.2 j hj).2
theorem St.alloc {B n p : Nat} {f : Nat → Nat} {W : World} (h : St B n p f W) (o : Obj) : St B n p f (W.alloc o) :=
  ⟨⟨cellAl _ h.1.1, cellAl _ h.1.2⟩, fun j hj => ⟨cellAl _ (h.2 j hj).1, frozenAl _ (h.2 j hj).1 (h.2 j hj).2⟩⟩
theorem St.congr {B n p : Nat} {f g : Nat → Nat} {W : World} (h : St B n p f W) (e : ∀ i, i < n → f i = g i) : St B n p g W := ⟨h.1, fun i hi => by rw [← e i hi]; exact h.2 i hi⟩
theorem St.start {w : World} {n p : Nat} {cs : Array Value} (hcs : cs.toList = List.replicate n (.int .u64 0)) (t0 t1 t2 : TypeId) :
    St w.heap.size n p (fun _ => 0) (((w.alloc (.cells #[.int .u64 p] t0)).alloc (.cells cs t1)).alloc (.cells #[.slice (some ⟨w.heap.size + 1, 0, none⟩) n n] t2)) := by
  have b0 := ((Boxed.new w t0 (.int .u64 p)).alloc (.cells cs t1)).alloc (.cells #[.slice (some ⟨w.heap.size + 1, 0, none⟩) n n] t2)
  have b2 := Boxed.new ((w.alloc (.cells #[.int .u64 p] t0)).alloc (.cells cs t1)) t2 (.slice (some ⟨w.heap.size + 1, 0, none⟩) n n)
  have hr := World.alloc_heap_new (w.alloc (.cells #[.int .u64 p] t0)) (.cells cs t1)
  simp only [World.size_alloc] at b2 hr
  have hz : ∀ i, i < n → cs[i]? = some (.int .u64 0) := fun i hi => by rw [← Array.getElem?_toList, hcs]; simp [hi]
  refine ⟨⟨b0.cell, b2.cell⟩, fun i hi => ?_⟩
  have h1 : ((w.alloc (.cells #[.int .u64 p] t0)).alloc (.cells cs t1)).cell? ⟨w.heap.size + 1, i, none⟩ = some (.int .u64 0) := (cell_of_row _ _ i cs t1 (0, 0) hr).trans (hz i hi)
  have h2 : ((w.alloc (.cells #[.int .u64 p] t0)).alloc (.cells cs t1)).frozen? ⟨w.heap.size + 1, i, none⟩ = false := frozen_of_row _ _ i cs t1 hr
  exact ⟨cellAl _ h1, frozenAl _ h1 h2⟩
theorem St.own {B n p : Nat} {f : Nat → Nat} {A W : World} {row : Option Nat} (h : St B n p f A) (hg : A.grownBy W row) (hr : ∀ r, row = some r → ∃ o : Obj, A.heap[r]? = some o ∧ o.isCells = false) : St B n p f W :=
  ⟨⟨cell_kept h.1.1 hg hr, cell_kept h.1.2 hg hr⟩, fun j hj => ⟨cell_kept (h.2 j hj).1 hg hr, (frozen_kept (h.2 j hj).1 hg hr).trans (h.2 j hj).2⟩⟩

theorem nums_slice' {w : World} {v : Value} {zs : List Nat} (h : Nums w v zs) : ∃ a cap, v = .slice a zs.length cap := by
  rcases h.2.2 with ⟨a, cap, rfl, rfl, _⟩ | ⟨b, off, cap, rfl, _⟩
  · exact ⟨_, _, rfl⟩
  · exact ⟨_, _, rfl⟩
theorem Nums.alloc {w : World} {v : Value} {zs : List Nat} (h : Nums w v zs) (o : Obj) : Nums (w.alloc o) v zs := by
  obtain ⟨h1, h2, h3⟩ := h
  refine ⟨h1, h2, ?_⟩
  rcases h3 with h3 | ⟨b, off, cap, e, hc, hl, hcell⟩
  · exact .inl h3
  · exact .inr ⟨b, off, cap, e, hc, by simp; omega, fun i hi => cellAl _ (hcell i hi)⟩
end Go.Proofs.Ytfkepkdfpjaniaa
namespace Go.Proofs.Ytfkepkdfpjaniaa
open Go.RowKit
set_option linter.unusedVariables false

def vals (l : List Nat) : List Value := l.map fun (z : Nat) => Value.int .u64 z
def Rw (w : World) (B n : Nat) (F : Nat → Nat) : Prop := ∀ i, i < n → w.cell? ⟨B, i, none⟩ = some (.int .u64 (F i : Nat)) ∧ w.frozen? ⟨B, i, none⟩ = false
theorem Rw.congr {w : World} {B n : Nat} {F G : Nat → Nat} (h : Rw w B n F) (e : ∀ i, i < n → F i = G i) : Rw w B n G := fun i hi => by rw [← e i hi]; exact h i hi
theorem Rw.set {w : World} {B n : Nat} {F : Nat → Nat} (h : Rw w B n F) {i : Nat} (hi : i < n) (x : Nat) : Rw (w.setCell ⟨B, i, none⟩ (.int .u64 (x : Nat))) B n (fun j => if j = i then x else F j) := by
  intro j hj
  refine ⟨?_, by rw [World.frozen?_setCell]; exact (h j hj).2⟩
  dsimp only
  by_cases e : j = i
  · subst e; rw [if_pos rfl]; exact World.cell?_setCell_same _ _ _ (h j hj).1
  · rw [World.cell?_setCell_other _ _ _ _ (by intro e'; have := congrArg Addr.off e'; simp at this; omega), if_neg e]; exact (h j hj).1
theorem Rw.other {w : World} {B n : Nat} {F : Nat → Nat} (h : Rw w B n F) {b : Nat} (hb : b ≠ B) (i : Nat) (u : Value) : Rw (w.setCell ⟨b, i, none⟩ u) B n F := by
  intro j hj
  refine ⟨?_, by rw [World.frozen?_setCell]; exact (h j hj).2⟩
  rw [World.cell?_setCell_other _ _ _ _ (by intro e'; have := congrArg Addr.block e'; simp at this; omega)]; exact (h j hj).1
theorem Rw.drewN {w : World} {B n : Nat} {F : Nat → Nat} (h : Rw w B n F) (k : Nat) : Rw (w.drewN k) B n F := h
theorem Rw.below {w w' : World} {B n b : Nat} {F : Nat → Nat} (h : Rw w B n F) (hb : Below b w w') (hB : B < b) : Rw w' B n F := fun i hi =>
  ⟨(hb.cell (p := ⟨B, i, none⟩) hB).trans (h i hi).1, (hb.frozen (p := ⟨B, i, none⟩) hB).trans (h i hi).2⟩
theorem Rw.start {w : World} {base B n : Nat} {l : List Value} (h : w.ownsRow base 22 1 (.slice (some ⟨B, 0, none⟩) n n) n l) (hl : l = List.replicate n (.int .u64 0)) : Rw w B n (fun _ => 0) := by
  subst hl
  intro i hi
  exact ⟨(h.cellAt i (by omega)).trans (by simp [hi]), h.frozenAt i⟩
/-- what lies below block B still reads as it did -/
theorem Nums.at {w w' : World} {B : Nat} {v : Value} {zs : List Nat} (h : Nums w v zs) (hw : w.heap.size ≤ B) {w0 : World} (hb : Below B w0 w') (h0 : Nums w0 v zs) : Nums w' v zs := by
  obtain ⟨h1, h2, h3⟩ := h
  obtain ⟨_, _, g3⟩ := h0
  refine ⟨h1, h2, ?_⟩
  rcases h3 with h3 | ⟨b, off, cap, e, hc, hl, hcell⟩
  · exact .inl h3
  · rcases g3 with ⟨a, c, e2, hz, _⟩ | ⟨b2, off2, cap2, e2, hc2, hl2, hcell2⟩
    · subst hz
      rw [e] at e2
      exact .inl ⟨_, _, e, rfl, by simp⟩
    · rw [e] at e2
      simp only [Value.slice.injEq, Option.some.injEq, Addr.mk.injEq, and_true, true_and] at e2
      obtain ⟨⟨rfl, rfl⟩, rfl⟩ := e2
      exact .inr ⟨b, off, cap, e, hc, Nat.lt_of_lt_of_le hl2 hb.size, fun i hi => (hb.cell (p := ⟨b, off + i, none⟩) (Nat.lt_of_lt_of_le hl hw)).trans (hcell2 i hi)⟩

theorem tab_len (n : Nat) (F : Nat → Nat) : (M.tabM n F).length = n := by simp [M.tabM]
theorem tab_get {n : Nat} (F : Nat → Nat) {i : Nat} (h : i < n) : (M.tabM n F).getD i 0 = F i := by simp [M.tabM, List.getD_eq_getElem?_getD, h]
theorem tab_congr {n : Nat} {F G : Nat → Nat} (h : ∀ i, i < n → F i = G i) : M.tabM n F = M.tabM n G := by
  unfold M.tabM; exact List.map_congr_left fun i hi => h i (List.mem_range.1 hi)
theorem Rw.nums {w : World} {B n : Nat} {F : Nat → Nat} (h : Rw w B n F) (hB : B < w.heap.size) (hn : n ≤ 17592186043904) (hF : ∀ i, i < n → F i < 18446744073709551616) : Nums w (.slice (some ⟨B, 0, none⟩) n n) (M.tabM n F) := by
  refine ⟨fun x hx => ?_, by rw [tab_len]; exact hn, .inr ⟨B, 0, n, by rw [tab_len], by rw [tab_len]; exact Nat.le_refl _, hB, fun i hi => ?_⟩⟩
  · unfold M.tabM at hx
    obtain ⟨i, hi, rfl⟩ := List.mem_map.1 hx
    exact hF i (List.mem_range.1 hi)
  · rw [tab_len] at hi
    rw [tab_get F hi, Nat.zero_add]
    exact (h i hi).1
end Go.Proofs.Ytfkepkdfpjaniaa
namespace Go.Proofs.Ytfkepkdfpjaniaa
open Go.RowKit Go.Shelf
set_option linter.unusedVariables false
attribute [local go_sem] Oper.semAt_some

/-- what the loop that goes backward holds: f the row, r the inverse of what is still before it -/
def Good (p : Nat) (zs : List Nat) (pre : List (Nat × Nat)) (f : Nat → Nat) (r : Nat) : Prop :=
  (∀ i, f i < p) ∧ r < p ∧ ∀ k, k ≤ zs.length → pre = downto zs zs.length k → r = M.restAt p zs (zs.length - k) ∧ ∀ i, i < zs.length → f i = if i < zs.length - k then M.preAt p zs i else M.pw p (zs.getD i 0) (p - 2)
theorem Good.step {p : Nat} {zs : List Nat} {pre : List (Nat × Nat)} {f : Nat → Nat} {r : Nat} (hi : M.isP p = true) (hz : ∀ x ∈ zs, x % p ≠ 0) (h : Good p zs pre f r) (x : Nat × Nat) :
    Good p zs (pre ++ [x]) (fun j => if j = x.1 then f x.1 * r % p else f j) (r * x.2 % p) := by
  have hp := M.pos_of hi
  obtain ⟨h1, h2, h3⟩ := h
  refine ⟨fun i => ?_, Nat.mod_lt _ (by omega), fun k hk e => ?_⟩
  · show (if i = x.1 then f x.1 * r % p else f i) < p
    by_cases e : i = x.1
    · rw [if_pos e]; exact Nat.mod_lt _ (by omega)
    · rw [if_neg e]; exact h1 i
  · have hl := congrArg List.length e
    rw [downto_len] at hl
    simp only [List.length_append, List.length_cons, List.length_nil] at hl
    obtain ⟨k', rfl⟩ : ∃ k', k = k' + 1 := ⟨k - 1, by omega⟩
    rw [downto_succ] at e
    obtain ⟨e1, e2⟩ := List.append_inj' e rfl
    obtain ⟨g1, g2⟩ := h3 k' (by omega) e1
    have hx : x = (zs.length - 1 - k', zs[zs.length - 1 - k']?.getD 0) := by simpa using e2
    obtain ⟨m, hm⟩ : ∃ m, m = zs.length - 1 - k' := ⟨_, rfl⟩
    rw [← hm] at hx
    have hml : m < zs.length := by omega
    have hm1 : zs.length - k' = m + 1 := by omega
    have hm2 : zs.length - (k' + 1) = m := by omega
    rw [hm1] at g1 g2
    rw [hm2]
    have hx2 : x.2 = zs.getD m 0 := by rw [hx, List.getD_eq_getElem?_getD]
    have hx1 : x.1 = m := by rw [hx]
    rw [hx1, hx2]
    refine ⟨by rw [g1, M.restAt_pred p zs hml], fun i hi' => ?_⟩
    show (if i = m then f m * r % p else f i) = _
    by_cases he : i = m
    · subst he
      rw [if_pos rfl, if_neg (Nat.lt_irrefl _), g2 i hi', if_pos (Nat.lt_succ_self _), g1]
      exact M.inv_at hi zs hz hi'
    · rw [if_neg he, g2 i hi']
      by_cases h : i < m
      · rw [if_pos h, if_pos (by omega)]
      · rw [if_neg h, if_neg (by omega)]

end Go.Proofs.Ytfkepkdfpjaniaa
