/-
  Package poly: plus.
-/
import Derived.Test.YtgoognipljknjaaP3
import Derived.Test.YtgoognipljknjaaP4
import Derived.Deep.OwnRows
import Derived.Laws.CopyOwn
namespace Go.Proofs.Ytgoognipljknjaa
open Go.RowKit
set_option linter.unusedVariables false

/-- make([]uint64, n) where n is spelled otherwise: the new block, whole -/
theorem wpList_make_rowL {P : Program} (w : World) {ops : Array Oper} {rest : List Oper} {o : Oper} {a : Act} {Q : Exit → Act → World → Prop}
    (hg : o.guard = none) (l c : Operand) (t : TypeId) (hop : o.op = Op.makeSlice t l c)
    (e : TypeId) (i : TypeInfo) (z : Value) (ht : P.underlying t = some (.slice e)) (hi : P.info? e = some i) (hz : i.zero = some z) (hsize : i.size = 1) (hz1 : z.cells = #[z])
    (kl kc : IntKind) (L C : Int) (n : Nat) (hl : a.eval l = .int kl L) (hc : a.eval c = .int kc C) (hL : L = n) (hC : C = n) (hbytes : i.bytes * n ≤ 281474976710656) (h63 : n ≤ 9223372036854775807)
    (hK : ∀ rep : List Value, rep = List.replicate n z → wpList P ops Q rest (a.put o.dst (.slice (some ⟨w.heap.size, 0, none⟩) n n)) (w.alloc (.cells rep.toArray e))) :
    wpList P ops Q (o :: rest) a w := by
  subst hL; subst hC
  refine wpList_make_row w hg l c t hop e i z ht hi hz hsize hz1 kl kc n hl hc hbytes h63 ?_
  have : (madeCells #[z] n) = (List.replicate n z).toArray := by rw [← toList_madeCells_one]
  rw [this]; exact hK _ rfl

/-- copy of numbers into a new row of zeros that is long enough -/
theorem wpList_copy_nums {w : World} {ops : Array Oper} {rest : List Oper} {o : Oper} {a : Act} {Q : Exit → Act → World → Prop} (hgd : o.guard = none) (d s : Operand)
    (ho : o.op = .call { callee := .builtin .copy, args := #[d, s], argTypes := #[24, 24] }) (A : Option Addr) (n cap B : Nat) (f : List Nat) (rep : List Value) (hrep : rep = List.replicate n (.int .u64 0))
    (hd : a.eval d = .slice (some ⟨B, 0, none⟩) n n) (hs : a.eval s = .slice A f.length cap) (hg : w.heap[B]? = some (.cells rep.toArray 22 (0, 0))) (hC : Cells w A f) (hfn : f.length ≤ n)
    (h : ∀ w', Rw w' B n (fun i => f.getD i 0) → Below B w w' → B < w'.heap.size → wpList Try.prog ops Q rest (a.put o.dst (goInt f.length)) w') : wpList Try.prog ops Q (o :: rest) a w := by
  obtain ⟨i0, hi0, hz0, hz1, hz2⟩ := info_parts infoU64
  have hvl : (vals f).length = f.length := by simp [vals]
  refine wpList_copy_splice hgd d s 24 24 ho 22 Try.underlying24 (by rw [hi0]; simp [hz1]) (some ⟨B, 0, none⟩) A n n f.length cap hd hs B 0 rep 22 hg (vals f)
    (by rw [show Nat.min f.length n = f.length from Nat.min_eq_left hfn, hvl]) ?_ (by rw [hrep, List.length_replicate, hvl]; omega) (fun v hv => by unfold vals at hv; obtain ⟨z, _, rfl⟩ := List.mem_map.1 hv; rfl) B w (Below.refl _ _) (Nat.le_refl _) ?_
  · intro h0
    obtain ⟨b, off, rfl, hb, hc⟩ := hC (by omega)
    refine ⟨rfl, _, rfl, fun j v hv => ?_⟩
    have hj : j < f.length := by
      apply Nat.lt_of_not_le; intro hc
      rw [List.getElem?_eq_none (by omega)] at hv; cases hv
    rw [Addr.add_lit, hc j hj, ← hv]
    simp [vals, List.getD_eq_getElem?_getD, hj]
  · intro w1 HH1 hB1
    rw [hvl]
    have h1 := HH1.out
    refine h w1 (fun i hi => ⟨?_, frozen_of_row _ _ i _ _ h1⟩) hB1 (Array.getElem?_eq_some_iff.1 h1).1
    rw [cell_of_row _ _ i _ _ (0, 0) h1]
    unfold splice
    rw [hrep]
    by_cases hif : i < f.length
    · simp [vals, List.getElem?_append, hif, List.getD_eq_getElem?_getD]
    · simp only [List.take_zero, List.nil_append, Nat.zero_add, M.getD_ge (l := f) (Nat.le_of_not_lt hif)]
      rw [List.getElem?_toArray, List.getElem?_append_right (by omega)]
      rw [hvl, List.getElem?_drop, List.getElem?_replicate, if_pos (by omega)]; rfl

namespace M
/-- the row after j rounds -/
def plusAt (p : Nat) (f : List Nat) (k : Nat) (g : List Nat) (j i : Nat) : Nat := if i < j then (f.getD i 0 + k * g.getD i 0) % p else f.getD i 0
theorem plusAt_lt {p : Nat} (hp : 0 < p) {f : List Nat} (hf : within p f = true) (k : Nat) (g : List Nat) (j i : Nat) : plusAt p f k g j i < p := by
  unfold plusAt; split
  · exact Nat.mod_lt _ hp
  · exact within_getD hp hf i
theorem plusAt_step (p : Nat) (f : List Nat) (k : Nat) (g : List Nat) (j i : Nat) : (if i = j then (plusAt p f k g j j + k * g.getD j 0) % p else plusAt p f k g j i) = plusAt p f k g (j + 1) i := by
  by_cases h : i = j
  · subst h
    rw [if_pos rfl]; unfold plusAt; rw [if_neg (Nat.lt_irrefl _), if_pos (by omega)]
  · rw [if_neg h]; unfold plusAt
    by_cases h1 : i < j
    · rw [if_pos h1, if_pos (by omega)]
    · rw [if_neg h1, if_neg (by omega)]
theorem plusAt_end {p : Nat} (hp : 0 < p) {f : List Nat} (hf : within p f = true) (k : Nat) (g : List Nat) (i : Nat) : plusAt p f k g g.length i = (f.getD i 0 + k * g.getD i 0) % p := by
  unfold plusAt
  split
  · rfl
  · rw [getD_ge (l := g) (by omega), Nat.mul_zero, Nat.add_zero, Nat.mod_eq_of_lt (within_getD hp hf i)]
end M

set_option maxHeartbeats 1000000 in
theorem plus_any (p k : Nat) (vf vg : Value) (f g : List Nat) (w : World) (h2 : 0 < p) (hp : p ≤ 65537) (hk : k < p) (hwf : M.within p f = true) (hwg : M.within p g = true) (hfl : f.length ≤ 1000) (hgl : g.length ≤ 1000) (hf : Nums w vf f) (hg : Nums w vg g) :
    Calls Try.prog 115 #[.int .u64 p, vf, .int .u64 k, vg] w (Gives w (M.pplus p f k g)) := by
  obtain ⟨A, cap, rfl, _, hlf, hCf⟩ := nums_view hf
  obtain ⟨A2, cap2, rfl, _, hlg, hCg⟩ := nums_view hg
  have HF := Lib.hid hCf
  have HG := Lib.hid hCg
  have HWF := Lib.hid hwf
  have HWG := Lib.hid hwg
  obtain ⟨i0, hi0, hz0, hz1, hz2⟩ := info_parts infoU64
  obtain ⟨n, en⟩ : ∃ n, n = max f.length g.length := ⟨_, rfl⟩
  have hn1 : f.length ≤ n := by omega
  have hn2 : g.length ≤ n := by omega
  have EN := Lib.hid en
  have hnl : n ≤ 1000 := by omega
  clear hf hg hCf hCg hwf hwg en
  rcases Nat.lt_or_ge f.length g.length with hm | hm
  all_goals
    go_enter Try.func115, Try.ntmps115
    go_wp2_with (first | (refine wpList_make_rowL _ rfl _ _ 24 rfl 22 i0 (.int .u64 0) Try.underlying24 hi0 hz0 hz1 rfl .i64 .i64 _ _ n rfl rfl (by have := EN.out; omega) (by have := EN.out; omega) (by rw [hz2]; omega) (by omega) ?_; intro rep hrep; have HREP := Lib.hid hrep; clear hrep) | (refine wpList_copy_nums rfl (.tmp 18) (.tmp 19) rfl A n cap w.heap.size f rep HREP.out rfl rfl (World.alloc_heap_new w _) (HF.out.below (Nat.le_refl _) (balloc w _)) hn1 ?_; intro w1 hr hB1 hs1; have HR := Lib.hid hr; have HB1 := Lib.hid ((balloc w _).trans hB1); have HS1 := Lib.hid hs1; clear hr hB1 hs1))
    go_wp2_with fail
    go_loopw [23] (fun t wr => ∃ j : Nat, j ≤ g.length ∧ t = .int .i64 j ∧ Rw wr w.heap.size n (M.plusAt p f k g j) ∧ Below w.heap.size w wr ∧ w.heap.size < wr.heap.size) (fun t _ => g.length - (intOf t).toNat)
    case atStart => exact ⟨0, by omega, rfl, HR.out.congr (fun i _ => by unfold M.plusAt; rw [if_neg (by omega)]), HB1.out, HS1.out⟩
    case round =>
      obtain ⟨j, hj, rfl, hr, hB, hsz⟩ := hrel
      have HB2 := Lib.hid hB
      have HS2 := Lib.hid hsz
      clear hB hsz
      by_cases hlt : j < g.length
      · obtain ⟨b, off, rfl, hb, hcg⟩ := HG.out (by omega)
        have hc := (HB2.out.cell (p := ⟨b, off + j, none⟩) hb).trans (hcg j hlt)
        have hx := M.within_mem HWG.out hlt
        have hjn : j < n := by omega
        obtain ⟨c3, f3⟩ := hr j hjn
        have hlt3 := M.plusAt_lt h2 HWF.out k g j j
        have hr4 := (hr.set hjn ((M.plusAt p f k g j j + k * g.getD j 0) % p)).congr (fun i _ => M.plusAt_step p f k g j i)
        have hB4 := HB2.out.setCell (p := ⟨w.heap.size, j, none⟩) (Nat.le_refl _) (.int .u64 (((M.plusAt p f k g j j + k * g.getD j 0) % p : Nat) : Int))
        obtain ⟨x, ex⟩ : ∃ x, x = g.getD j 0 := ⟨_, rfl⟩
        obtain ⟨z, ez⟩ : ∃ z, z = M.plusAt p f k g j j := ⟨_, rfl⟩
        rw [← ex] at hc hx hr4 hB4
        rw [← ez] at c3 hlt3 hr4 hB4
        obtain ⟨m1, m2⟩ := mul_le hp hk hx
        have e5 : (((z + k * x) % p : Nat) : Int) = ((z : Int) + k * x) % p := by rw [Int.natCast_emod, Int.natCast_add, Int.natCast_mul]
        rw [e5] at hr4 hB4
        have HR4 := Lib.hid hr4
        have HB4 := Lib.hid hB4
        clear hr hr4 hB4 ex ez e5 hcg
        go_wp2_with fail
        go_roundw
        case rel => exact ⟨j + 1, by omega, by go_num, HR4.out, HB4.out, by simpa using HS2.out⟩
        case measure => simp [intOf]; omega
      · obtain rfl : j = g.length := by omega
        have hr5 := hr.congr (G := fun i => (f.getD i 0 + k * g.getD i 0) % p) (fun i _ => M.plusAt_end h2 HWF.out k g i)
        have HN5 := Lib.hid (hr5.nums HS2.out (by omega) (fun i _ => by have := Nat.mod_lt (f.getD i 0 + k * g.getD i 0) h2; omega))
        clear hr hr5
        go_wp2_with fail
        refine (trim_any _ _ _ HN5.out).mono ?_
        rintro e w4 ⟨v4, rfl, hn4, hb4⟩
        have HN4 := Lib.hid hn4
        have B4 := Lib.hid (HB2.out.trans (hb4.mono HB2.out.size))
        obtain ⟨a4, c4, rfl⟩ := nums_slice' hn4
        clear hn4 hb4
        go_wp2_with fail
        go_ret
        refine ⟨_, rfl, ?_, B4.out⟩
        unfold M.pplus M.poly
        rw [← EN.out]
        exact HN4.out
end Go.Proofs.Ytgoognipljknjaa
