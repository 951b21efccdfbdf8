/-
  The reference of package pair: Add.
-/
import Derived.Test.YtglehjcohdjhoaaPr5
import Derived.Test.YtglehjcohdjhoaaLex
import Derived.Deep.RegionLaw
import Derived.Deep.AppendLies
namespace Go.Proofs.Ytglehjcohdjhoaa
open Go.RowKit
set_option linter.unusedVariables false
set_option maxRecDepth 100000

/-- a row of the call's own that is not empty, as a row known whole -/
theorem row_own {w : World} {base n : Nat} {v : Value} {F : Nat → Nat} (h : w.ownsRow base 22 1 v n (vals (M.tabM n F))) (hn : 0 < n) : ∃ g c, v = .slice (some ⟨g, 0, none⟩) n c ∧ base ≤ g ∧ n ≤ c ∧ Row w g n F := by
  obtain ⟨g, c, rfl, hg, _⟩ := h.form hn
  obtain ⟨_, h2, _, h4⟩ := row_of_owns (zs := M.tabM n F) h
  exact ⟨g, c, rfl, hg, h2, h4.congr fun j hj => M.tabM_at F hj⟩

/-- append(row, y) at one operation -/
theorem wp_append_num6 {w : World} {o : Oper} {a : Act} {K : Act → World → Prop} {Q : Exit → Act → World → Prop} (s x : Operand)
    (ho : o.op = .call { callee := .builtin .append, args := #[s, x], argTypes := #[30, 30] }) {base n y X : Nat} {tv : Value} {l : List Nat} (hs : a.eval s = tv)
    (hx : a.eval x = .slice (some ⟨X, 0, none⟩) 1 1) (hX : w.heap[X]? = some (.cells #[.int .u64 (y : Nat)] 22 (0, 0))) (hown : w.ownsRow base 22 1 tv n (vals l)) (hn : n ≤ 1000) (hbase : base ≤ w.heap.size)
    (h : ∀ v' w', w'.ownsRow base 22 1 v' (n + 1) (vals (l ++ [y])) → Below base w w' → K (a.put o.dst v') w') : o.wp Try.prog a w K Q := by
  obtain ⟨i0, hi0, hz0, hz1, hz2⟩ := info_parts infoU64
  refine wp_append_own w s x 30 ho base 22 i0 (.int .u64 0) 1 8 Try.underlying30 hi0 hz0 hz1 hz2 rfl (by decide) tv n _ hs hown ⟨X, 0, none⟩ 1 1 [.int .u64 (y : Nat)] hx rfl ?_ ?_ ?_ ?_ hbase ?_
  · exact World.news_of_block (cs := #[.int .u64 (y : Nat)]) (fr := (0, 0)) hX
  · intro u hu; simp at hu; subst hu; rfl
  · unfold maxLen; omega
  · omega
  · intro v' w' hown' hgr _
    have hlt := hown.lt
    refine h v' w' ?_ ((Below.refl base w).grown hgr hbase (fun r hr => (hlt r hr).1))
    rw [show vals (l ++ [y]) = vals l ++ [.int .u64 (y : Nat)] by simp [vals]]
    exact hown'

set_option maxHeartbeats 4000000 in
theorem radd6_any (p n : Nat) (v v2 : Value) (a c : List (List Nat)) (w : World) (h3 : 3 ≤ p) (hp : p ≤ 65537) (hn : 0 < n) (hn4 : n ≤ 4) (ha : M.POk p n a) (hc : M.POk p n c) (hv : Mat w v a) (hv2 : Mat w v2 c) :
    Calls Try.prog 35 #[.int .u64 p, v, v2] w fun e w' => ∃ v', e = .returned v' ∧ Mat w' v' (M.tabMM n n fun i k => (M.el a i k + M.el c i k) % p) ∧ Below w.heap.size w w' := by
  have hud : ∀ b : Bool, undef ≠ Value.bool b := fun b h => by cases h
  obtain ⟨A, cap, rfl, _⟩ := mat_view6 hv
  obtain ⟨A2, cap2, rfl, _⟩ := mat_view6 hv2
  have hr1 := (mat_row hv).2
  have hr2 := (mat_row hv2).2
  have hal := ha.len
  have hcl := hc.len
  rw [hal] at hr1 ⊢
  rw [hcl] at hr2 ⊢
  obtain ⟨b1, o1, rfl, hb1, hc1⟩ := hr1 (by omega)
  obtain ⟨b2, o2, rfl, hb2, hc2⟩ := hr2 (by omega)
  have HC1 := Lib.hid hc1
  have HC2 := Lib.hid hc2
  have HA := Lib.hid ha
  have HC := Lib.hid hc
  obtain ⟨F, eF⟩ : ∃ F : Nat → Nat → Nat, F = fun i k => (M.el a i k + M.el c i k) % p := ⟨_, rfl⟩
  have HEF := Lib.hid eF
  rw [← eF]
  clear hv hv2 hr1 hr2 hal hcl hc1 hc2 ha hc eF
  go_enter Try.func35, Try.ntmps35
  go_wp2_with fail
  go_loopw [13, 7] (fun ti tv wr => ∃ k : Nat, k ≤ n ∧ ti = .int .i64 k ∧ (∃ G Cp, MatA wr w.heap.size tv k n G Cp F) ∧ Below w.heap.size w wr) (fun ti _ _ => n - (intOf ti).toNat)
  case atStart => exact ⟨0, by omega, rfl, ⟨_, _, MatA.start _ _ _ _⟩, Below.refl _ _⟩
  case round =>
    obtain ⟨k, hk, rfl, ⟨G, Cp, hA⟩, hB⟩ := hrel
    have HMA := Lib.hid hA
    have HB := Lib.hid hB
    clear hA hB
    by_cases hlt : k < n
    · obtain ⟨Au, cu, ck, _, hrr⟩ := HC1.out k hlt
      obtain ⟨Av, cv, cl, _, hss⟩ := HC2.out k hlt
      rw [HA.out.rows k hlt] at ck hrr
      rw [HC.out.rows k hlt] at cl hss
      obtain ⟨g1, p1, rfl, hg1, hcel1⟩ := hrr (by omega)
      obtain ⟨g2, p2, rfl, hg2, hcel2⟩ := hss (by omega)
      obtain ⟨wo, ewo⟩ : ∃ wo : World, wo = wr := ⟨_, rfl⟩
      obtain ⟨Ao, co, hform⟩ := HMA.out.form
      have CK := Lib.hid ck
      have CL := Lib.hid cl
      have HE1 := Lib.hid hcel1
      have HE2 := Lib.hid hcel2
      rw [← ewo] at HMA HB ⊢
      clear ck cl hrr hss hcel1 hcel2 ewo
      subst hform
      go_wp2_with fail
      go_loopw [18, 9] (fun tj tl wr => ∃ j : Nat, j ≤ n ∧ tj = .int .i64 j ∧ wr.ownsRow wo.heap.size 22 1 tl j (vals (M.tabM j (F k))) ∧ Below wo.heap.size wo wr) (fun tj _ _ => n - (intOf tj).toNat)
      case atStart => exact ⟨0, by omega, rfl, World.ownsRow_nil _ _ _ _, Below.refl _ _⟩
      case round =>
        obtain ⟨j, hj, rfl, hown, hB2⟩ := hrel
        have HO := Lib.hid hown
        have HB2 := Lib.hid hB2
        clear hown hB2
        by_cases hltj : j < n
        · have hbw := bnext HB.out HB2.out
          have HBW := Lib.hid hbw
          have c1 := (hbw.cell (p := ⟨b1, o1 + k, none⟩) hb1).trans CK.out
          have c2 := (hbw.cell (p := ⟨b2, o2 + k, none⟩) hb2).trans CL.out
          have c3 := (hbw.cell (p := ⟨g1, p1 + j, none⟩) hg1).trans (HE1.out j hltj)
          have c4 := (hbw.cell (p := ⟨g2, p2 + j, none⟩) hg2).trans (HE2.out j hltj)
          have hx := HA.out.el_lt hlt hltj
          have hy := HC.out.el_lt hlt hltj
          have hsn := M.tabM_succ j (F k)
          rw [show F k j = (M.el a k j + M.el c k j) % p by rw [HEF.out]] at hsn
          obtain ⟨x, ex⟩ : ∃ x, x = M.el a k j := ⟨_, rfl⟩
          obtain ⟨y, ey⟩ : ∃ y, y = M.el c k j := ⟨_, rfl⟩
          rw [← ex] at c3 hx hsn
          rw [← ey] at c4 hy hsn
          have had := fun W => refAdd_any p x y W (by omega) hp hx hy
          obtain ⟨z, ez⟩ : ∃ z, z = (x + y) % p := ⟨_, rfl⟩
          rw [← ez] at had hsn
          have HAD := Lib.hid had
          have EX := Lib.hid ex
          have EY := Lib.hid ey
          have HSN := Lib.hid hsn
          clear ex ey ez had hsn hbw
          go_wp2_with fail
          have hsz := HB2.out.size
          have HB3 := Lib.hid (HB2.out.drew.alloc hsz (.cells #[.int .u64 (z : Nat)] 22))
          have HO3 := Lib.hid (show (wr.drew.alloc (.cells #[.int .u64 (z : Nat)] 22)).ownsRow wo.heap.size 22 1 u9 j (vals (M.tabM j (F k))) from World.ownsRow.alloc (w := wr.drew) HO.out _)
          have hbs := HB3.out.size
          try dsimp only [List.append]
          refine wp_region_lex (S := fun W' => W'.cell? ⟨b1, o1 + k, none⟩ = some (.slice (some ⟨g1, p1, none⟩) n cu) ∧ W'.cell? ⟨b2, o2 + k, none⟩ = some (.slice (some ⟨g2, p2, none⟩) n cv) ∧ W'.cell? ⟨g1, p1 + j, none⟩ = some (.int .u64 (x : Nat)) ∧ W'.cell? ⟨g2, p2 + j, none⟩ = some (.int .u64 (y : Nat))) (by kernel_rfl) (by kernel_rfl) (fun _ _ _ _ _ h => h) ⟨c1, c2, c3, c4⟩ ?_
          repeat (first
            | (refine LexH.yield (v := ?_) (by rfl) ?_ ?_; rotate_left 1; (· intro w hSw; (try dsimp only at hSw); go_simp; try with_reducible rfl); (try simp only [Act.put, List.setIfInBounds_toArray, List.set_cons_zero, List.set_cons_succ]))
            | (refine LexH.alone (by rfl) (by kernel_rfl) (fun K hKK => ?_); go_simp; go_at_call 63; (with_reducible refine (HAD.out _).mono ?_); rintro e w' ⟨rfl, rfl⟩; go_wp2_with fail; refine hKK.out _ _ ⟨c1, c2, c3, c4⟩ (fun hHeld => ?_); clear hKK K hHeld; (try simp only [Act.put, List.setIfInBounds_toArray, List.set_cons_zero, List.set_cons_succ]))
            | (refine LexH.alone (by rfl) (by kernel_rfl) (fun K hKK => ?_); (refine wp_append_num6 (y := z) (X := wr.heap.size) _ _ rfl (by rfl) (by rfl) (heap_alloc_new wr.drew _) HO3.out (by omega) hbs ?_); intro v' w4 hown' hb4; have hbw4 := bnext HB.out (HB3.out.trans hb4); refine hKK.out _ _ ⟨(hbw4.cell (p := ⟨b1, o1 + k, none⟩) hb1).trans CK.out, (hbw4.cell (p := ⟨b2, o2 + k, none⟩) hb2).trans CL.out, (hbw4.cell (p := ⟨g1, p1 + j, none⟩) hg1).trans (by rw [EX.out]; exact HE1.out j hltj), (hbw4.cell (p := ⟨g2, p2 + j, none⟩) hg2).trans (by rw [EY.out]; exact HE2.out j hltj)⟩ (fun hHeld => ?_); clear hKK K hHeld; (try simp only [Act.put, List.setIfInBounds_toArray, List.set_cons_zero, List.set_cons_succ]))
            | (refine LexH.alone (by rfl) (by kernel_rfl) (fun K hKK => ?_); go_simp; refine hKK.out _ _ (by go_keep) (fun hHeld => ?_); clear hKK K hHeld; (try simp only [Act.put, List.setIfInBounds_toArray, List.set_cons_zero, List.set_cons_succ])))
          refine LexH.nil ?_
          have HB5 := Lib.hid (HB3.out.trans hb4)
          rw [← HSN.out] at hown'
          have HOW := Lib.hid hown'
          clear hown' hb4 hbw4 c1 c2 c3 c4
          go_wp2_with fail
          go_roundw
          case rel => exact ⟨j + 1, by omega, by go_num, HOW.out, HB5.out⟩
          case measure => simp [intOf]; omega
        · obtain rfl : n = j := by omega
          obtain ⟨g, cc, rfl, hg, hcc, hr⟩ := row_own HO.out (by omega)
          have HA2 := Lib.hid (HMA.out.below HB2.out (Nat.le_refl _))
          have hbs := HB.out.size
          have HR := Lib.hid hr
          have HNE := Lib.hid (show ∀ i, i < k → G i ≠ g from fun i hi => by have := (HMA.out.row i hi).lt; omega)
          have HBw := Lib.hid (bnext HB.out HB2.out)
          clear hr
          go_wp2_with (at_builtin; refine wpList_append_row rfl _ _ rfl rfl rfl HA2.out HR.out (by omega) hcc HNE.out (by omega) HBw.out.size ?_)
          intro v' w4 hA' hb4
          have HA4 := Lib.hid hA'
          have HB4 := Lib.hid (HBw.out.trans hb4)
          clear hA' hb4
          go_wp2_with fail
          go_roundw
          case rel => exact ⟨k + 1, by omega, by go_num, ⟨_, _, HA4.out⟩, HB4.out⟩
          case measure => simp [intOf]; omega
    · obtain rfl : n = k := by omega
      go_wp2_with fail
      go_ret
      exact ⟨_, rfl, HMA.out.mat (by omega) (by omega) (fun i hi j hj => by rw [HEF.out]; have := Nat.mod_lt (M.el a i j + M.el c i j) (show 0 < p by omega); simp only; omega), HB.out⟩
end Go.Proofs.Ytglehjcohdjhoaa
