/-
  The reference of package pair: Quarrels.
-/
import Derived.Test.YtglehjcohdjhoaaPr11
namespace Go.Proofs.Ytglehjcohdjhoaa
open Go.RowKit
set_option linter.unusedVariables false
set_option maxRecDepth 100000

namespace M
/-- rows i and k quarrel -/
def qB (p : Nat) (xs : List Nat) (rows : List (List Nat)) (i k : Nat) : Bool := pev p (rows.getD i []) (xs.getD k 0) != pev p (rows.getD k []) (xs.getD i 0)
/-- the quarrels of row i with the rows between it and row k -/
def qRow (p : Nat) (xs : List Nat) (rows : List (List Nat)) (i k : Nat) : List (Nat × Nat) := ((List.range k).filter fun j => decide (i < j) && qB p xs rows i j).map fun j => (i, j)
def qAll (p : Nat) (xs : List Nat) (rows : List (List Nat)) : Nat → List (Nat × Nat)
  | 0 => []
  | i + 1 => qAll p xs rows i ++ qRow p xs rows i xs.length
theorem qRow_start (p : Nat) (xs : List Nat) (rows : List (List Nat)) (i : Nat) : qRow p xs rows i (i + 1) = [] := by
  unfold qRow
  rw [List.map_eq_nil_iff, List.filter_eq_nil_iff]
  intro j hj
  have := List.mem_range.1 hj
  simp
  omega
theorem qRow_yes {p : Nat} {xs : List Nat} {rows : List (List Nat)} {i k : Nat} (h : i < k) (hq : qB p xs rows i k = true) : qRow p xs rows i (k + 1) = qRow p xs rows i k ++ [(i, k)] := by
  unfold qRow
  rw [List.range_succ, List.filter_append, List.map_append]
  simp [h, hq]
theorem qRow_no {p : Nat} {xs : List Nat} {rows : List (List Nat)} {i k : Nat} (hq : qB p xs rows i k = false) : qRow p xs rows i (k + 1) = qRow p xs rows i k := by
  unfold qRow
  rw [List.range_succ, List.filter_append, List.map_append]
  simp [hq]
theorem qRow_len (p : Nat) (xs : List Nat) (rows : List (List Nat)) (i k : Nat) : (qRow p xs rows i k).length ≤ k := by
  unfold qRow
  rw [List.length_map]
  have := List.length_filter_le (fun j => decide (i < j) && qB p xs rows i j) (List.range k)
  simpa using this
theorem qAll_len (p : Nat) (xs : List Nat) (rows : List (List Nat)) : ∀ i, (qAll p xs rows i).length ≤ i * xs.length
  | 0 => by simp [qAll]
  | i + 1 => by
    have h1 := qAll_len p xs rows i
    have h2 := qRow_len p xs rows i xs.length
    rw [qAll, List.length_append, Nat.add_mul, Nat.one_mul]
    omega
theorem qAll_mem {p : Nat} {xs : List Nat} {rows : List (List Nat)} {a : Nat × Nat} : ∀ {n : Nat}, a ∈ qAll p xs rows n ↔ a.1 < n ∧ a.1 < a.2 ∧ a.2 < xs.length ∧ qB p xs rows a.1 a.2 = true
  | 0 => by simp [qAll]
  | n + 1 => by
    rw [qAll, List.mem_append, qAll_mem]
    unfold qRow
    obtain ⟨x, y⟩ := a
    simp only [List.mem_map, List.mem_filter, List.mem_range, Bool.and_eq_true, decide_eq_true_eq, Prod.mk.injEq]
    constructor
    · rintro (⟨h1, h2, h3, h4⟩ | ⟨j, ⟨h1, h2, h3⟩, rfl, rfl⟩)
      · exact ⟨by omega, h2, h3, h4⟩
      · exact ⟨by omega, h2, h1, h3⟩
    · rintro ⟨h1, h2, h3, h4⟩
      by_cases e : x < n
      · exact .inl ⟨e, h2, h3, h4⟩
      · obtain rfl : x = n := by omega
        exact .inr ⟨y, ⟨h3, h2, h4⟩, rfl, rfl⟩
theorem qAll_nil {p : Nat} {xs : List Nat} {rows : List (List Nat)} : qAll p xs rows xs.length = [] ↔ Agreed p xs rows := by
  constructor
  · intro h i k hik hk
    apply Classical.byContradiction
    intro hne
    have : (i, k) ∈ qAll p xs rows xs.length := qAll_mem.2 ⟨by simp only; omega, hik, hk, by unfold qB; rw [bne_iff_ne]; exact hne⟩
    rw [h] at this
    cases this
  · intro h
    cases hq : qAll p xs rows xs.length with
    | nil => rfl
    | cons a t =>
      have hm : a ∈ qAll p xs rows xs.length := by rw [hq]; exact List.mem_cons_self ..
      obtain ⟨h1, h2, h3, h4⟩ := qAll_mem.1 hm
      unfold qB at h4
      rw [bne_iff_ne] at h4
      exact absurd (h a.1 a.2 h2 h3) h4
end M

/-- pairs of numbers as cells -/
def prV (l : List (Nat × Nat)) : List Value := l.flatMap fun a => [.int .i64 (a.1 : Nat), .int .i64 (a.2 : Nat)]
theorem prV_snoc (l : List (Nat × Nat)) (x y : Nat) : prV (l ++ [(x, y)]) = prV l ++ [.int .i64 (x : Nat), .int .i64 (y : Nat)] := by simp [prV]
theorem infoPr6 : (Try.prog.info? 73).map (fun i => (i.zero, i.size, i.bytes)) = some (some (.agg #[.int .i64 0, .int .i64 0]), 2, 16) := by kernel_rfl
theorem wpList_append_pr6 {w : World} {ops : Array Oper} {rest : List Oper} {o : Oper} {a : Act} {Q : Exit → Act → World → Prop} (hgd : o.guard = none) (s x : Operand)
    (ho : o.op = .call { callee := .builtin .append, args := #[s, x], argTypes := #[68, 68] }) {base n X x0 y0 : Nat} {tv : Value} {l : List Value} (hs : a.eval s = tv)
    (hx : a.eval x = .slice (some ⟨X, 0, none⟩) 1 1) (hX : w.heap[X]? = some (.cells #[.int .i64 (x0 : Nat), .int .i64 (y0 : Nat)] 73 (0, 0))) (hown : w.ownsRow base 73 2 tv n l) (hn : n ≤ 1000) (hbase : base ≤ w.heap.size)
    (h : ∀ v' w', w'.ownsRow base 73 2 v' (n + 1) (l ++ [.int .i64 (x0 : Nat), .int .i64 (y0 : Nat)]) → Below base w w' → wpList Try.prog ops Q rest (a.put o.dst v') w') :
    wpList Try.prog ops Q (o :: rest) a w := by
  obtain ⟨i0, hi0, hz0, hz1, hz2⟩ := info_parts infoPr6
  refine wpList_append_own _ hgd s x 68 ho base 73 i0 (.agg #[.int .i64 0, .int .i64 0]) 2 16 Try.underlying68 hi0 hz0 hz1 hz2 rfl (by decide) tv n _ hs hown ⟨X, 0, none⟩ 1 1 [.int .i64 (x0 : Nat), .int .i64 (y0 : Nat)] hx rfl ?_ ?_ ?_ ?_ hbase ?_
  · exact World.news_of_block (cs := #[.int .i64 (x0 : Nat), .int .i64 (y0 : Nat)]) (fr := (0, 0)) hX
  · intro u hu; simp at hu; rcases hu with rfl | rfl <;> rfl
  · unfold maxLen; omega
  · omega
  · intro v' w' hown' hgr _
    have hlt := hown.lt
    exact h v' w' hown' ((Below.refl base w).grown hgr hbase (fun r hr => (hlt r hr).1))

set_option maxHeartbeats 4000000 in
theorem rquarrels6_any (p : Nat) (vx vr : Value) (xs : List Nat) (rows : List (List Nat)) (w : World) (h3 : 3 ≤ p) (hp : p ≤ 65537) (hok : M.ROk p xs rows) (hx : Nums w vx xs) (hr : Mat w vr rows) :
    Calls Try.prog 41 #[.int .u64 p, vx, vr] w fun e w' => ∃ v', e = .returned v' ∧ w'.ownsRow w.heap.size 73 2 v' (M.qAll p xs rows xs.length).length (prV (M.qAll p xs rows xs.length)) ∧ Below w.heap.size w w' := by
  have hud : ∀ b : Bool, undef ≠ Value.bool b := fun b h => by cases h
  have hx13 := hok.len
  have hrl := hok.rl
  have HX := Lib.hid hx
  have HOK := Lib.hid hok
  obtain ⟨Ax, cx, rfl, _, _, hcx⟩ := nums_view hx
  have HCX := Lib.hid hcx
  obtain ⟨A, cap, rfl, _⟩ := mat_view6 hr
  have HM := Lib.hid (mat_row hr).2
  have HRL := Lib.hid hrl
  obtain ⟨n, en⟩ : ∃ n, n = xs.length := ⟨_, rfl⟩
  have HEN := Lib.hid en
  rw [hrl, ← en]
  rw [← en] at hx13
  clear hx hr hok hcx hrl en
  go_enter Try.func41, Try.ntmps41
  go_wp2_with fail
  go_loopw [12, 7] (fun t tv wr => ∃ i : Nat, i ≤ n ∧ t = .int .i64 i ∧ wr.ownsRow w.heap.size 73 2 tv (M.qAll p xs rows i).length (prV (M.qAll p xs rows i)) ∧ Below w.heap.size w wr) (fun t _ _ => n - (intOf t).toNat)
  case atStart => exact ⟨0, by omega, rfl, World.ownsRow_nil _ _ _ _, Below.refl _ _⟩
  case round =>
    obtain ⟨i, hi, rfl, ho, hB⟩ := hrel
    have HO := Lib.hid ho
    have HB := Lib.hid hB
    clear ho hB
    by_cases hlt : i < n
    · obtain ⟨wo, hwo⟩ : ∃ x, x = wr := ⟨_, rfl⟩
      rw [← hwo] at HO HB ⊢
      have hw1 : IntKind.i64.wrap ((i : Int) + 1) = (i : Int) + 1 := by rw [IntKind.wrap_i64]; omega
      clear hwo
      go_wp2_with fail
      go_loopw [9, 7] (fun t tv wx => ∃ k : Nat, i + 1 ≤ k ∧ k ≤ n ∧ t = .int .i64 k ∧ wx.ownsRow w.heap.size 73 2 tv (M.qAll p xs rows i ++ M.qRow p xs rows i k).length (prV (M.qAll p xs rows i ++ M.qRow p xs rows i k)) ∧ Below w.heap.size w wx) (fun t _ _ => n - (intOf t).toNat)
      case atStart => exact ⟨i + 1, Nat.le_refl _, hlt, by go_num, by rw [M.qRow_start, List.append_nil]; exact HO.out, HB.out⟩
      case round =>
        obtain ⟨k, hik, hk, rfl, ho2, hB2⟩ := hrel
        have HO2 := Lib.hid ho2
        have HB2 := Lib.hid hB2
        clear ho2 hB2
        by_cases hltk : k < n
        · obtain ⟨bx, ox, rfl, hbx, hcx⟩ := HCX.out (by rw [← HEN.out]; omega)
          obtain ⟨b, off, rfl, hbl, hcells⟩ := HM.out (by rw [HRL.out, ← HEN.out]; omega)
          obtain ⟨A1, u1, cc1, n1, _⟩ := hcells i (by rw [HRL.out, ← HEN.out]; exact hlt)
          obtain ⟨A2, u2, cc2, n2, _⟩ := hcells k (by rw [HRL.out, ← HEN.out]; exact hltk)
          have c1 := (HB2.out.cell (p := ⟨b, off + i, none⟩) hbl).trans cc1
          have c2 := (HB2.out.cell (p := ⟨b, off + k, none⟩) hbl).trans cc2
          have c3 := (HB2.out.cell (p := ⟨bx, ox + i, none⟩) hbx).trans (hcx i (by rw [← HEN.out]; exact hlt))
          have c4 := (HB2.out.cell (p := ⟨bx, ox + k, none⟩) hbx).trans (hcx k (by rw [← HEN.out]; exact hltk))
          have x1 := M.within_mem HOK.out.wx (show i < xs.length by rw [← HEN.out]; exact hlt)
          have x2 := M.within_mem HOK.out.wx (show k < xs.length by rw [← HEN.out]; exact hltk)
          have r1 := (HOK.out.row i (by rw [← HEN.out]; exact hlt)).2
          have r2 := (HOK.out.row k (by rw [← HEN.out]; exact hltk)).2
          have m1 := n1.below HB2.out
          have m2 := n2.below HB2.out
          have he1 := fun W hW => reval_any p (xs.getD k 0) (.slice A1 (rows.getD i []).length u1) (rows.getD i []) W (by omega) hp x2 r1 hW
          have he2 := fun W hW => reval_any p (xs.getD i 0) (.slice A2 (rows.getD k []).length u2) (rows.getD k []) W (by omega) hp x1 r2 hW
          have hq : M.qB p xs rows i k = (M.pev p (rows.getD i []) (xs.getD k 0) != M.pev p (rows.getD k []) (xs.getD i 0)) := rfl
          obtain ⟨L1, eL1⟩ : ∃ L, L = (rows.getD i []).length := ⟨_, rfl⟩
          obtain ⟨L2, eL2⟩ : ∃ L, L = (rows.getD k []).length := ⟨_, rfl⟩
          rw [← eL1] at c1 m1 he1
          rw [← eL2] at c2 m2 he2
          obtain ⟨a, ea⟩ : ∃ a, a = M.pev p (rows.getD i []) (xs.getD k 0) := ⟨_, rfl⟩
          obtain ⟨c, ec⟩ : ∃ c, c = M.pev p (rows.getD k []) (xs.getD i 0) := ⟨_, rfl⟩
          rw [← ea] at he1 hq
          rw [← ec] at he2 hq
          obtain ⟨y1, ey1⟩ : ∃ y, y = xs.getD i 0 := ⟨_, rfl⟩
          obtain ⟨y2, ey2⟩ : ∃ y, y = xs.getD k 0 := ⟨_, rfl⟩
          rw [← ey1] at c3 he2
          rw [← ey2] at c4 he1
          have M1 := Lib.hid m1
          have M2 := Lib.hid m2
          have HE1 := Lib.hid he1
          have HE2 := Lib.hid he2
          have HQ := Lib.hid hq
          have j1 : (i : Int) < (n : Nat) := by omega
          have j2 : (k : Int) < (n : Nat) := by omega
          have hlq := M.qAll_len p xs rows i
          have hlr := M.qRow_len p xs rows i k
          have hmx : i * xs.length ≤ 13 * 13 := by rw [← HEN.out]; exact Nat.mul_le_mul (by omega) hx13
          have HLN := Lib.hid (show (M.qAll p xs rows i ++ M.qRow p xs rows i k).length ≤ 1000 by rw [List.length_append]; omega)
          clear cc1 cc2 n1 n2 hcx hcells m1 m2 he1 he2 hq ea ec eL1 eL2 ey1 ey2 x1 x2 r1 r2 hlq hlr hmx
          by_cases hac : a = c
          · have hb6 : ((a : Int) != (c : Int)) = false := by rw [hac]; simp
            have HNQ := Lib.hid (M.qRow_no (i := i) (k := k) (show M.qB p xs rows i k = false by rw [HQ.out, hac]; simp))
            clear hac
            go_wp2_with fail
            go_quiet (first
              | (go_at_call 44; (with_reducible refine Calls.quiet_of_same ((HE1.out _ (M1.out.below (below_drewN (Below.refl _ _) _))).mono fun e w' ⟨h1, h2⟩ => ⟨h1, h2.symm⟩)))
              | (go_at_call 44; (with_reducible refine Calls.quiet_of_same ((HE2.out _ (M2.out.below (below_drewN (Below.refl _ _) _))).mono fun e w' ⟨h1, h2⟩ => ⟨h1, h2.symm⟩))))
            go_wp2_with fail
            go_roundw
            case rel => exact ⟨k + 1, by omega, by omega, by go_num, by rw [HNQ.out]; exact HO2.out, below_drewN HB2.out _⟩
            case measure => simp [intOf]; omega
          · have hb6 : ((a : Int) != (c : Int)) = true := by rw [bne_iff_ne]; intro e; exact hac (Int.ofNat.inj e)
            have HYQ := Lib.hid (M.qRow_yes (show i < k by omega) (show M.qB p xs rows i k = true by rw [HQ.out, bne_iff_ne]; exact hac))
            clear hac
            go_wp2_with fail
            go_quiet (first
              | (go_at_call 44; (with_reducible refine Calls.quiet_of_same ((HE1.out _ (M1.out.below (below_drewN (Below.refl _ _) _))).mono fun e w' ⟨h1, h2⟩ => ⟨h1, h2.symm⟩)))
              | (go_at_call 44; (with_reducible refine Calls.quiet_of_same ((HE2.out _ (M2.out.below (below_drewN (Below.refl _ _) _))).mono fun e w' ⟨h1, h2⟩ => ⟨h1, h2.symm⟩))))
            obtain ⟨w9, hw9⟩ : ∃ x, x = wr.drewN nq := ⟨_, rfl⟩
            have HO9 := Lib.hid (show (w9.alloc (.cells #[.int .i64 (i : Nat), .int .i64 (k : Nat)] 73)).ownsRow w.heap.size 73 2 u7 (M.qAll p xs rows i ++ M.qRow p xs rows i k).length (prV (M.qAll p xs rows i ++ M.qRow p xs rows i k)) by rw [hw9]; exact World.ownsRow.alloc (w := wr.drewN nq) HO2.out _)
            have hB9 : Below w.heap.size w w9 := by rw [hw9]; exact below_drewN HB2.out _
            have HB9 := Lib.hid (hB9.alloc hB9.size (.cells #[.int .i64 (i : Nat), .int .i64 (k : Nat)] 73))
            have hs9 := HB9.out.size
            rw [← hw9]
            clear hw9 hB9 c1 c2 c3 c4
            --PEEK
            go_wp2_with (at_builtin; refine wpList_append_pr6 (x0 := i) (y0 := k) (X := w9.heap.size) rfl _ _ rfl rfl (by rfl) (heap_alloc_new w9 _) HO9.out HLN.out hs9 ?_; intro v4 w4 ho4 hb4)
            have HB4 := Lib.hid (HB9.out.trans hb4)
            have HO4 := Lib.hid ho4
            clear ho4 hb4
            go_roundw
            case rel => exact ⟨k + 1, by omega, by omega, by go_num, by rw [HYQ.out, ← List.append_assoc, prV_snoc, List.length_append]; exact HO4.out, HB4.out⟩
            case measure => simp [intOf]; omega
        · obtain rfl : k = n := by omega
          have HN2 := Lib.hid (show M.qAll p xs rows i ++ M.qRow p xs rows i k = M.qAll p xs rows (i + 1) by rw [M.qAll, ← HEN.out])
          rw [HN2.out] at HO2
          go_wp2_with fail
          go_roundw
          case rel => exact ⟨i + 1, by omega, by go_num, HO2.out, HB2.out⟩
          case measure => simp [intOf]; omega
    · obtain rfl : i = n := by omega
      go_wp2_with fail
      go_ret
      exact ⟨_, rfl, HO.out, HB.out⟩
end Go.Proofs.Ytglehjcohdjhoaa
