/-
  The reference of package pair: Lift.
-/
import Derived.Test.YtglehjcohdjhoaaPr6
import Derived.Lib.AppendZerosOnto
namespace Go.Proofs.Ytglehjcohdjhoaa
open Go.RowKit
set_option linter.unusedVariables false
set_option maxRecDepth 100000

theorem zeroCells_u64 (k : Nat) : Builtin.zeroCells (Value.int .u64 0).cells k = (List.replicate k (Value.int .u64 0)).toArray := by
  apply Array.ext
  · simp [Builtin.zeroCells, Value.cells]
  · intro i h1 h2
    simp [Builtin.zeroCells, Value.cells, Nat.mod_one]

theorem run_append_zeros (w : World) (base n k : Nat) (v : Value) (xs : List Value) (ty : TypeId) (hown : w.ownsRow base 22 1 v n xs) (h0 : 0 < k) (hk : n + k ≤ 2000) (hbase : base ≤ w.heap.size) :
    ∃ v' w', (Builtin.append_ #[30, 3] ty #[v, .int .i64 (k : Nat)]).run Try.prog w = .ok v' w' ∧ w'.ownsRow base 22 1 v' (n + k) (xs ++ List.replicate k (.int .u64 0)) ∧ w.grownBy w' v.ownBlock := by
  obtain ⟨i0, hi0, hz0, hz1, hz2⟩ := info_parts infoU64
  have hlen : (xs ++ List.replicate k (Value.int .u64 0)).length = (n + k) * 1 := by rw [List.length_append, hown.1, List.length_replicate]; omega
  have grown : ∀ (old : Nat) (row : Option Nat),
      (w.drew.alloc (.cells (xs.toArray ++ Builtin.zeroCells (Value.int .u64 0).cells k ++ Builtin.zeroCells (Value.int .u64 0).cells (grownCap w (n + k) old 22 - (n + k))) 22)).ownsRow base 22 1
        (.slice (some ⟨w.heap.size, 0, none⟩) (n + k) (grownCap w (n + k) old 22)) (n + k) (xs ++ List.replicate k (.int .u64 0)) ∧
      w.grownBy (w.drew.alloc (.cells (xs.toArray ++ Builtin.zeroCells (Value.int .u64 0).cells k ++ Builtin.zeroCells (Value.int .u64 0).cells (grownCap w (n + k) old 22 - (n + k))) 22)) row := by
    intro old row
    have hge := grownCap_ge w (n + k) old 22
    have hcm : grownCap w (n + k) old 22 ≤ maxLen := grownCap_le_maxLen w (n + k) old 22 (by unfold maxLen; omega)
    rw [zeroCells_u64, zeroCells_u64]
    refine ⟨⟨hlen, .inr ⟨w.heap.size, _, _, rfl, hbase, heap_alloc_new w.drew _, hge, hcm, ?_, ?_⟩⟩, ⟨rfl, rfl, rfl, by simp, fun j hj _ => Below.heap_alloc w.drew _ j hj⟩⟩
    · simp only [Array.size_append, List.size_toArray, List.length_replicate, hown.1]
      omega
    · simp only [Array.toList_append, List.append_assoc]
      rw [← List.append_assoc, ← hlen]
      exact List.take_left
  rcases hown.2 with ⟨rfl, rfl⟩ | ⟨g, cap, cur, rfl, hbg, hg, hnc, hcm, hcs, htake⟩
  · have hx : xs = [] := List.eq_nil_of_length_eq_zero (by simpa using hown.1)
    subst hx
    have hr := Lib.run_append_grow_zeros (P := Try.prog) w 30 3 ty 22 i0 (.int .u64 0) .i64 .i64 Try.underlying30 Try.underlying3 hi0 hz0 none 0 0 [] (run_firstCells_none w.drew i0.size 0 0 0) k h0 (by omega) (by omega) (by omega) (by rw [hz2]; omega)
      (by rw [hz2]; exact growslice_fits (by omega) (by omega))
    exact ⟨_, _, hr, (grown 0 none).1, (grown 0 _).2⟩
  · by_cases hroom : n + k ≤ cap
    · have hw : IntKind.i64.wrap (k : Int) = k := by rw [IntKind.wrap_i64]; omega
      have h48i : ¬ (281474976710656 < (k : Int) * (i0.bytes : Int)) := by rw [hz2]; omega
      have hneg : ¬ ((k : Int) < 0) := by omega
      have hk0 : k ≠ 0 := by omega
      have hst := run_storeCells_at Try.prog g n 22 (List.replicate k (Value.int .u64 0)) 0 cur w hg (by rw [List.length_replicate, hcs]; omega) (by intro v hv; rw [List.eq_of_mem_replicate hv]; rfl)
      simp only [Nat.add_zero] at hst
      have hzc := zeroCells_u64 k
      refine ⟨.slice (some ⟨g, 0, none⟩) (n + k) cap, w.setRow g (cur.toList.take n ++ List.replicate k (Value.int .u64 0) ++ cur.toList.drop (n + (List.replicate k (Value.int .u64 0)).length)).toArray, ?_, ⟨hlen, .inr ⟨g, cap, _, rfl, hbg, setRow_heap w g cur _ 22 _ hg, hroom, hcm, ?_, ?_⟩⟩, ⟨rfl, rfl, rfl, by simp, fun j _ hj => setRow_other w g j _ (fun e => hj (by simp [Value.ownBlock, e]))⟩⟩
      · simp [Builtin.append_, run_underlying (P := Try.prog) Try.underlying30, run_underlying (P := Try.prog) Try.underlying3, sizeOf, typeInfo, zeroValue, hi0, hz0, hz1, asInt, asIntOf, hw, hneg, hk0, h48i, hroom, Addr.add_lit, hzc, hst]
      · simp only [List.size_toArray, List.length_append, List.length_take, List.length_drop, Array.length_toList, List.length_replicate]
        omega
      · rw [Nat.mul_one] at htake hlen
        rw [htake, Nat.mul_one, ← hlen]
        exact List.take_left
    · have holds : ∀ j u, xs[j]? = some u → w.cell? ((⟨g, 0, none⟩ : Addr).add j) = some u := hown.cells (g := g) rfl
      have hold := run_firstCells_some (P := Try.prog) w.drew i0.size n ⟨g, 0, none⟩ n cap xs (by rw [hz1]; exact hown.1) holds
      have hr := Lib.run_append_grow_zeros (P := Try.prog) w 30 3 ty 22 i0 (.int .u64 0) .i64 .i64 Try.underlying30 Try.underlying3 hi0 hz0 (some ⟨g, 0, none⟩) n cap xs hold k h0 (by omega) (by omega) (by omega) (by rw [hz2]; omega)
        (by rw [hz2]; exact growslice_fits (by omega) (by omega))
      exact ⟨_, _, hr, (grown cap none).1, (grown cap _).2⟩
theorem wpList_append_zeros6 {w : World} {ops : Array Oper} {rest : List Oper} {o : Oper} {a : Act} {Q : Exit → Act → World → Prop} (hgd : o.guard = none) (s x : Operand)
    (ho : o.op = .call { callee := .builtin .append, args := #[s, x], argTypes := #[30, 3] }) {base n k : Nat} {v : Value} {l : List Nat} (hs : a.eval s = v) (hx : a.eval x = .int .i64 (k : Nat))
    (hown : w.ownsRow base 22 1 v n (vals l)) (h0 : 0 < k) (hk : n + k ≤ 2000) (hbase : base ≤ w.heap.size)
    (h : ∀ v' w', w'.ownsRow base 22 1 v' (n + k) (vals (l ++ List.replicate k 0)) → Below base w w' → wpList Try.prog ops Q rest (a.put o.dst v') w') : wpList Try.prog ops Q (o :: rest) a w := by
  refine wpList_plain hgd fun K' hK => ?_
  obtain ⟨v', w', hr, h1, h2⟩ := run_append_zeros w base n k v (vals l) o.type hown h0 hk hbase
  have hlt := hown.lt
  unfold Oper.wp execOp
  simp only [ho, resolve, invoke, builtin, Sem.run_bind, Sem.run_pure, Result.andThen_ok, List.map_toArray, List.map_cons, List.map_nil, hs, hx, hr]
  refine hK _ _ (h v' w' ?_ ((Below.refl base w).grown h2 hbase (fun r hr => (hlt r hr).1)))
  rw [show vals (l ++ List.replicate k 0) = vals l ++ List.replicate k (.int .u64 0) by simp [vals]]
  exact h1

set_option maxHeartbeats 4000000 in
theorem rlift6_any (p n K : Nat) (v vz : Value) (a : List (List Nat)) (z : List Nat) (w : World) (h3 : 3 ≤ p) (hp : p ≤ 65537) (hn : 0 < n) (hn4 : n ≤ 4) (hK : K < p) (ha : M.POk p n a) (hz : M.within p z = true) (hzl : z.length ≤ n) (hv : Mat w v a) (hvz : Nums w vz z) :
    Calls Try.prog 38 #[.int .u64 p, v, .int .u64 K, vz] w fun e w' => ∃ v', e = .returned v' ∧ Mat w' v' (M.tabMM n n (M.liftF p (M.el a) K z)) ∧ Below w.heap.size w w' := by
  have hud : ∀ b : Bool, undef ≠ Value.bool b := fun b h => by cases h
  have HV := Lib.hid hv
  have HZ := Lib.hid hvz
  have HA := Lib.hid ha
  have HWZ := Lib.hid hz
  obtain ⟨A, cap, rfl, _⟩ := mat_view6 hv
  have HL := Lib.hid (show ∃ x, x = Value.slice A a.length cap from ⟨_, rfl⟩)
  have hal := ha.len
  rw [hal] at HV ⊢
  obtain ⟨F, eF⟩ : ∃ F : Nat → Nat → Nat, F = fun i k => K * (z.getD i 0 * z.getD k 0 % p) % p := ⟨_, rfl⟩
  have HEF := Lib.hid eF
  have ho1 : (w.alloc (.cells #[] 22)).ownsRow w.heap.size 22 1 (.slice (some ⟨w.heap.size, 0, none⟩) 0 0) 0 (vals []) := World.ownsRow_made (base := w.heap.size) (e := 22) (size := 1) w #[] 0 (Nat.le_refl _) (by decide) rfl
  have HO1 := Lib.hid ho1
  have HB1 := Lib.hid (balloc w (.cells #[] 22))
  have HZ1 := Lib.hid (HZ.out.below HB1.out)
  have hbs1 := HB1.out.size
  obtain ⟨w1, hw1⟩ : ∃ w1, w.alloc (.cells #[] 22) = w1 := ⟨_, rfl⟩
  rw [hw1] at HO1 HB1 HZ1 hbs1
  have HW1 := Lib.hid hw1
  have hzle : z.length ≤ 17592186043904 := by omega
  obtain ⟨Az, cz, evz⟩ := nums_slice' hvz
  clear hv hvz ha hz hal eF ho1 hw1 HL
  go_enter Try.func38, Try.ntmps38
  go_wp2_with (first
    | (at_builtin; rw [HW1.out]; refine wpList_append_nums (by rfl) _ _ rfl _ _ _ _ (by rfl) HO1.out _ _ (by rfl) HZ1.out (by omega) hbs1 ?_; intro v2 w2 ho2 hb2; have hbs2 := Nat.le_trans hbs1 hb2.size)
    | (at_builtin; refine wpList_append_zeros6 (k := n) (l := z) (n := 0 + z.length) rfl _ _ rfl (by rfl) (by rfl) ho2 hn (by omega) hbs2 ?_; intro v3 w3 ho3 hb3))
  have HO3 := Lib.hid ho3
  have HB3 := Lib.hid ((HB1.out.trans hb2).trans hb3)
  clear ho2 hb2 hbs2 ho3 hb3
  obtain ⟨gz, capz, rfl, hgz0, hgz⟩ := HO3.out.form (by omega)
  have hzc : ∀ i, i < n → w3.cell? ⟨gz, i, none⟩ = some (.int .u64 (z.getD i 0 : Nat)) := by
    intro i hi
    have h := HO3.out.cells (g := gz) rfl i (.int .u64 (z.getD i 0 : Nat)) (by
      unfold vals
      rw [List.getElem?_map]
      by_cases h : i < z.length
      · rw [List.getElem?_append_left h, List.getElem?_eq_getElem h, M.getD_lt h]; rfl
      · rw [List.getElem?_append_right (by omega), List.getElem?_eq_getElem (by simp; omega), M.getD_ge (by omega)]; simp)
    rwa [Addr.add_lit, Nat.zero_add] at h
  have HZC := Lib.hid hzc
  obtain ⟨L, eL⟩ : ∃ L, L = 0 + z.length + n := ⟨_, rfl⟩
  have hLn : n ≤ L := by omega
  have hzlt : ∀ i, z.getD i 0 < p := fun i => M.within_getD (by omega) HWZ.out i
  have HZL := Lib.hid hzlt
  rw [← eL]
  have HV3 := Lib.hid (HV.out.below HB3.out)
  clear hzc eL hzlt HO3 HO1 HZ1 HW1 hbs1
  go_loopw [21, 9] (fun ti tv wr => ∃ k : Nat, k ≤ n ∧ ti = .int .i64 k ∧ (∃ G Cp, MatA wr w3.heap.size tv k n G Cp F) ∧ Below w3.heap.size w3 wr) (fun ti _ _ => n - (intOf ti).toNat)
  case atStart => exact ⟨0, by omega, rfl, ⟨_, _, MatA.start _ _ _ _⟩, Below.refl _ _⟩
  case round =>
    obtain ⟨k, hk, rfl, ⟨G, Cp, hA⟩, hB⟩ := hrel
    have HMA := Lib.hid hA
    have HB := Lib.hid hB
    clear hA hB
    by_cases hlt : k < n
    · obtain ⟨wo, ewo⟩ : ∃ wo : World, wo = wr := ⟨_, rfl⟩
      obtain ⟨Ao, co, hform⟩ := HMA.out.form
      rw [← ewo] at HMA HB ⊢
      clear ewo
      subst hform
      go_wp2_with fail
      go_loopw [26, 11] (fun tj tl wr => ∃ j : Nat, j ≤ n ∧ tj = .int .i64 j ∧ wr.ownsRow wo.heap.size 22 1 tl j (vals (M.tabM j (F k))) ∧ Below wo.heap.size wo wr) (fun tj _ _ => n - (intOf tj).toNat)
      case atStart => exact ⟨0, by omega, rfl, World.ownsRow_nil _ _ _ _, Below.refl _ _⟩
      case round =>
        obtain ⟨j, hj, rfl, hown, hB2⟩ := hrel
        have HO := Lib.hid hown
        have HB2 := Lib.hid hB2
        clear hown hB2
        by_cases hltj : j < n
        · have hbw := bnext HB.out HB2.out
          have c1 := (hbw.cell (p := ⟨gz, k, none⟩) hgz).trans (HZC.out k hlt)
          have c2 := (hbw.cell (p := ⟨gz, j, none⟩) hgz).trans (HZC.out j hltj)
          have hx := HZL.out k
          have hy := HZL.out j
          have hsn := M.tabM_succ j (F k)
          rw [show F k j = K * (z.getD k 0 * z.getD j 0 % p) % p by rw [HEF.out]] at hsn
          obtain ⟨x, ex⟩ : ∃ x, x = z.getD k 0 := ⟨_, rfl⟩
          obtain ⟨y, ey⟩ : ∃ y, y = z.getD j 0 := ⟨_, rfl⟩
          rw [← ex] at c1 hx hsn
          rw [← ey] at c2 hy hsn
          have hm1 := fun W => refMul_any p x y W (by omega) hp hx hy
          have hul : x * y % p < p := Nat.mod_lt _ (by omega)
          obtain ⟨u, eu⟩ : ∃ u, u = x * y % p := ⟨_, rfl⟩
          rw [← eu] at hm1 hsn hul
          have hm2 := fun W => refMul_any p K u W (by omega) hp hK hul
          obtain ⟨q, eq⟩ : ∃ q, q = K * u % p := ⟨_, rfl⟩
          rw [← eq] at hm2 hsn
          have HM1 := Lib.hid hm1
          have HM2 := Lib.hid hm2
          have HSN := Lib.hid hsn
          have EX := Lib.hid ex
          have EY := Lib.hid ey
          have hki : (k : Int) < (L : Nat) := by omega
          have hji : (j : Int) < (L : Nat) := by omega
          have hkl : k < L := by omega
          have hjl : j < L := by omega
          clear ex ey eu eq hm1 hm2 hsn hbw
          go_wp2_with fail
          have hsz := HB2.out.size
          have HB4 := Lib.hid (HB2.out.drew.alloc hsz (.cells #[.int .u64 (q : Nat)] 22))
          have HO4 := Lib.hid (show (wr.drew.alloc (.cells #[.int .u64 (q : Nat)] 22)).ownsRow wo.heap.size 22 1 u11 j (vals (M.tabM j (F k))) from World.ownsRow.alloc (w := wr.drew) HO.out _)
          have hbs := HB4.out.size
          try dsimp only [List.append]
          refine wp_region_lex (S := fun W' => W'.cell? ⟨gz, k, none⟩ = some (.int .u64 (x : Nat)) ∧ W'.cell? ⟨gz, j, none⟩ = some (.int .u64 (y : Nat))) (by kernel_rfl) (by kernel_rfl) (fun _ _ _ _ _ h => h) ⟨c1, c2⟩ ?_
          repeat (first
            | (refine LexH.yield (v := ?_) (by rfl) ?_ ?_; rotate_left 1; (· intro w hSw; (try dsimp only at hSw); go_simp; try with_reducible rfl); (try simp only [Act.put, List.setIfInBounds_toArray, List.set_cons_zero, List.set_cons_succ]))
            | (refine LexH.alone (by rfl) (by kernel_rfl) (fun K hKK => ?_); go_simp; go_at_call 64; (first | (with_reducible refine (HM1.out _).mono ?_) | (with_reducible refine (HM2.out _).mono ?_)); rintro e w' ⟨rfl, rfl⟩; go_wp2_with fail; refine hKK.out _ _ ⟨c1, c2⟩ (fun hHeld => ?_); clear hKK K hHeld; (try simp only [Act.put, List.setIfInBounds_toArray, List.set_cons_zero, List.set_cons_succ]))
            | (refine LexH.alone (by rfl) (by kernel_rfl) (fun K hKK => ?_); (refine wp_append_num6 (y := q) (X := wr.heap.size) _ _ rfl (by rfl) (by rfl) (heap_alloc_new wr.drew _) HO4.out (by omega) hbs ?_); intro v' w4 hown' hb4; have hbw4 := bnext HB.out (HB4.out.trans hb4); refine hKK.out _ _ ⟨(hbw4.cell (p := ⟨gz, k, none⟩) hgz).trans (by rw [EX.out]; exact HZC.out k hlt), (hbw4.cell (p := ⟨gz, j, none⟩) hgz).trans (by rw [EY.out]; exact HZC.out j hltj)⟩ (fun hHeld => ?_); clear hKK K hHeld; (try simp only [Act.put, List.setIfInBounds_toArray, List.set_cons_zero, List.set_cons_succ]))
            | (refine LexH.alone (by rfl) (by kernel_rfl) (fun K hKK => ?_); go_simp; refine hKK.out _ _ (by go_keep) (fun hHeld => ?_); clear hKK K hHeld; (try simp only [Act.put, List.setIfInBounds_toArray, List.set_cons_zero, List.set_cons_succ])))
          refine LexH.nil ?_
          have HB5 := Lib.hid (HB4.out.trans hb4)
          rw [← HSN.out] at hown'
          have HOW := Lib.hid hown'
          clear hown' hb4 hbw4 c1 c2
          go_wp2_with fail
          go_roundw
          case rel => exact ⟨j + 1, by omega, by go_num, HOW.out, HB5.out⟩
          case measure => simp [intOf]; omega
        · obtain rfl : n = j := by omega
          obtain ⟨g, cc, rfl, hg, hcc, hr⟩ := row_own HO.out (by omega)
          have HA2 := Lib.hid (HMA.out.below HB2.out (Nat.le_refl _))
          have hbs := HB.out.size
          have HR := Lib.hid hr
          have HNE := Lib.hid (show ∀ i, i < k → G i ≠ g from fun i hi => by have := (HMA.out.row i hi).lt; omega)
          have HBw := Lib.hid (bnext HB.out HB2.out)
          clear hr
          go_wp2_with (at_builtin; refine wpList_append_row rfl _ _ rfl rfl rfl HA2.out HR.out (by omega) hcc HNE.out (by omega) HBw.out.size ?_)
          intro v' w4 hA' hb4
          have HA4 := Lib.hid hA'
          have HB4 := Lib.hid (HBw.out.trans hb4)
          clear hA' hb4
          go_wp2_with fail
          go_roundw
          case rel => exact ⟨k + 1, by omega, by go_num, ⟨_, _, HA4.out⟩, HB4.out⟩
          case measure => simp [intOf]; omega
    · obtain rfl : n = k := by omega
      have hFlt : ∀ i j, F i j < p := fun i j => by rw [HEF.out]; exact Nat.mod_lt _ (by omega)
      have hmm := HMA.out.mat (by omega) (by omega) (fun i hi j hj => by have := hFlt i j; omega)
      have hpk : M.POk p n (M.tabMM n n F) := M.POk.tab (fun i j _ _ => by rw [HEF.out]; simp only [Nat.mul_comm (z.getD i 0)]) (fun i j _ _ => hFlt i j)
      have hV := (HV3.out.below HB.out)
      have HADD := Lib.hid (radd6_any p n _ _ a (M.tabMM n n F) wr h3 hp hn hn4 HA.out hpk hV hmm)
      have hE : M.tabMM n n (fun i k => (M.el a i k + M.el (M.tabMM n n F) i k) % p) = M.tabMM n n (M.liftF p (M.el a) K z) := M.tabMM_congr fun i hi j hj => by
        rw [M.tabMM_el F hi hj, HEF.out]
        rfl
      rw [hE] at HADD
      obtain ⟨Ao, co, hform⟩ := HMA.out.form
      subst hform
      clear hmm hpk hV hFlt hE
      go_wp2_with fail
      refine HADD.out.mono ?_
      rintro e w5 ⟨v5, rfl, hm5, hb5⟩
      have HM5 := Lib.hid hm5
      have HB5 := Lib.hid ((bnext HB3.out (bnext HB.out hb5)))
      clear hm5 hb5
      go_wp2_with fail
      go_ret
      exact ⟨_, rfl, HM5.out, HB5.out⟩
end Go.Proofs.Ytglehjcohdjhoaa
