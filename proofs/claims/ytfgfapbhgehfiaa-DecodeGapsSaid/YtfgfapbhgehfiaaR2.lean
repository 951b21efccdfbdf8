/-
  The reference's Decode of layer 5.
-/
import Derived.Test.YtfgfapbhgehfiaaR1
import Derived.Test.YtfgfapbhgehfiaaRC
import Derived.Test.YtfgfapbhgehfiaaDecS
import Derived.Test.YtfgfapbhgehfiaaXK
import Derived.Outline
namespace Go.Proofs.Ytfgfapbhgehfiaa
open Go.RowKit
set_option linter.unusedVariables false
set_option maxRecDepth 100000

theorem wpList_append_rowG {w : World} {ops : Array Oper} {rest : List Oper} {o : Oper} {a : Act} {Q : Exit → Act → World → Prop} (hgd : o.guard = none) (s x : Operand)
    (ho : o.op = .call { callee := .builtin .append, args := #[s, x], argTypes := #[68, 68] }) {base k C g c X : Nat} {tv : Value} {G Cp : Nat → Nat} {F : Nat → Nat → Nat} (hs : a.eval s = tv)
    (hx : a.eval x = .slice (some ⟨X, 0, none⟩) 1 1) (hX : w.heap[X]? = some (.cells #[.slice (some ⟨g, 0, none⟩) C c] 31 (0, 0))) (hA : MatA w base tv k C G Cp F) (hrow : Row w g C (F k)) (hg : base ≤ g) (hc : C ≤ c) (hne : ∀ i, i < k → G i ≠ g) (hk : k ≤ 1000) (hbase : base ≤ w.heap.size)
    (h : ∀ v' w', MatA w' base v' (k + 1) C (fun i => if i = k then g else G i) (fun i => if i = k then c else Cp i) F → w.grownBy w' tv.ownBlock → wpList Try.prog ops Q rest (a.put o.dst v') w') :
    wpList Try.prog ops Q (o :: rest) a w := by
  obtain ⟨i0, hi0, hz0, hz1, hz2⟩ := info_parts infoRow
  refine wpList_append_own _ hgd s x 68 ho base 31 i0 (.slice none 0 0) 1 24 Try.underlying68 hi0 hz0 hz1 hz2 rfl (by decide) tv k _ hs hA.own ⟨X, 0, none⟩ 1 1 [.slice (some ⟨g, 0, none⟩) C c] hx rfl ?_ ?_ ?_ ?_ hbase ?_
  · exact World.news_of_block (cs := #[.slice (some ⟨g, 0, none⟩) C c]) (fr := (0, 0)) hX
  · intro u hu; simp at hu; subst hu; rfl
  · unfold maxLen; omega
  · omega
  · intro v' w' hown hgr _
    exact h v' w' (hA.push hrow hg hc hne hgr hown) hgr
theorem own_apart {w : World} {b1 b2 n1 n2 s1 s2 : Nat} {e1 e2 : TypeId} {v1 v2 : Value} {l1 l2 : List Value} (h1 : w.ownsRow b1 e1 s1 v1 n1 l1) (h2 : w.ownsRow b2 e2 s2 v2 n2 l2) (he : e1 ≠ e2) : v1.ownBlock = none ∨ v1.ownBlock ≠ v2.ownBlock := by
  rcases h1.2 with ⟨rfl, _⟩ | ⟨g, cap, cur, rfl, _, hg, _⟩
  · exact .inl rfl
  · refine .inr fun e => ?_
    rcases h2.2 with ⟨rfl, _⟩ | ⟨g2, cap2, cur2, rfl, _, hg2, _⟩
    · simp [Value.ownBlock] at e
    · simp [Value.ownBlock] at e
      subst e
      rw [hg] at hg2
      injection hg2 with hg2
      injection hg2 with _ hg2 _
      exact he hg2
theorem MatA.grownBy {w w' : World} {base k C : Nat} {tv : Value} {G Cp : Nat → Nat} {F : Nat → Nat → Nat} {row : Option Nat} (h : MatA w base tv k C G Cp F) (hg : w.grownBy w' row) (h1 : tv.ownBlock = none ∨ tv.ownBlock ≠ row) (h2 : ∀ i, i < k → some (G i) ≠ row) : MatA w' base tv k C G Cp F :=
  ⟨h.own.kept hg h1, fun i hi => (h.row i hi).grown hg (h2 i hi), h.baseG, h.inj⟩
theorem own_new {tv : Value} {k bp gk : Nat} {G : Nat → Nat} (h : ∀ i, i < k → tv.ownBlock ≠ some (G i)) (hl : ∀ r, tv.ownBlock = some r → r < bp) (hg : bp ≤ gk) : ∀ i, i < k + 1 → tv.ownBlock ≠ some (if i = k then gk else G i) := fun i hi e => by
  by_cases ei : i = k
  · rw [if_pos ei] at e
    have := hl _ e
    omega
  · rw [if_neg ei] at e
    exact h i (by omega) e
theorem neg_mul_mod {p y z : Nat} (hy : y < p) : (0 + p - y * z % p) % p = (p - y) * z % p := by
  have hp : 0 < p := by omega
  have h1 : y * z % p < p := Nat.mod_lt _ hp
  have e : ((0 + p - y * z % p) + y * z) % p = ((p - y) * z + y * z) % p := by
    rw [← Nat.add_mul, Nat.sub_add_cancel (Nat.le_of_lt hy), Nat.mul_comm p z, Nat.mul_mod_left]
    have h2 : (0 + p - y * z % p + y * z) % p = (0 + p - y * z % p + y * z % p) % p := by rw [Nat.add_mod_mod]
    rw [h2, Nat.sub_add_cancel (by omega)]
    simp
  have h3 := M.mod_eq_int.1 e
  apply M.mod_eq_int.2
  have h4 : (((0 + p - y * z % p + y * z : Nat) : Int) - (((p - y) * z + y * z : Nat) : Int)) = ((0 + p - y * z % p : Nat) : Int) - ((p - y) * z : Nat) := by
    rw [Int.natCast_add, Int.natCast_add]; omega
  rwa [h4] at h3
theorem nums_empty (w : World) (g off : Nat) (hg : g < w.heap.size) : Nums w (.slice (some ⟨g, off, none⟩) 0 0) [] := ⟨by simp, by simp, .inr ⟨g, off, 0, rfl, by simp, hg, fun i hi => absurd hi (by simp)⟩⟩
theorem rdec_loc {w : World} {base c : Nat} {v : Value} {zs : List Nat} (h : w.ownsRow base 22 1 v c (([] : List Value) ++ vals zs ++ [.int .u64 1])) (hz : ∀ z ∈ zs ++ [1], z < 18446744073709551616) (hl : zs.length ≤ 64) : Nums w v (zs ++ [1]) := by
  refine nums_of_owns (base := base) (n := c) ?_ hz (by simp; omega)
  have e : (zs ++ [1]).map (fun (z : Nat) => Value.int .u64 z) = ([] : List Value) ++ vals zs ++ [.int .u64 1] := by simp [vals]
  rw [e]
  exact h
theorem rdec_loc2 {w : World} {base g c : Nat} {zs : List Nat} (h : w.ownsRow base 22 1 (.slice (some ⟨g, 0, none⟩) (0 + zs.length + 1) c) (0 + zs.length + 1) (([] : List Value) ++ vals zs ++ [.int .u64 1])) (hz : ∀ z ∈ zs ++ [1], z < 18446744073709551616) (hl : zs.length ≤ 64) : Nums w (.slice (some ⟨g, 0, none⟩) (zs.length + 1) c) (zs ++ [1]) := by
  have h2 := rdec_loc h hz hl
  rwa [Nat.zero_add] at h2
theorem own_zero {w : World} {base g n c : Nat} {l : List Value} (h : w.ownsRow base 22 1 (.slice (some ⟨g, 0, none⟩) (0 + n) c) (0 + n) (([] : List Value) ++ l)) : w.ownsRow base 22 1 (.slice (some ⟨g, 0, none⟩) n c) n ([] ++ l) := by
  rwa [Nat.zero_add] at h
theorem rdec_div (p d q n : Nat) (u1 u2 : Value) (Y : Nat → Nat) (w : World) (zs : List Nat) (hi : M.isP p = true) (hn : n = d + 1 + q) (hz : zs = M.tabM q fun j => Y (n + j)) (hlt : ∀ j, j < d + 1 + 2 * q → Y j < p) (hn64 : n + q ≤ 64) (h1 : Nums w u1 (M.tabM n Y)) (h2 : Nums w u2 (zs ++ [1])) :
    Calls Try.prog 41 #[.int .u64 p, u1, u2] w fun e w' => ∃ vq vr f r, e = .returned (.tuple #[vq, vr]) ∧ Nums w' vq f ∧ Nums w' vr r ∧ M.IsDiv p (M.trim (M.qOf d q Y)) (M.trim (M.eOf d q Y)) f r ∧ Below w.heap.size w w' := by
  have hp := M.pos_of hi
  have e1 : M.qOf d q Y = M.tabM n Y := by unfold M.qOf; rw [hn]
  have e2 : M.eOf d q Y = zs ++ [1] := by unfold M.eOf; rw [hz, hn]
  have w1 : M.within p (M.qOf d q Y) = true := M.within_tabM fun j hj => hlt j (by omega)
  have w2 : M.within p (M.eOf d q Y) = true := by
    refine M.within_of fun i hi' => ?_
    rw [M.eOf_len] at hi'
    unfold M.eOf
    rw [M.getD_snoc, M.tabM_len, M.tabM_get]
    split
    · exact hlt _ (by omega)
    · split <;> omega
  have hne : M.trim (M.eOf d q Y) ≠ [] := by
    rw [M.trim_of_last (.inr (by rw [M.eOf_len, Nat.add_sub_cancel, M.eOf_last]; omega))]
    intro h
    have := congrArg List.length h
    rw [M.eOf_len] at this
    simp at this
  rw [← e1] at h1
  rw [← e2] at h2
  exact rdivide_any p u1 u2 (M.qOf d q Y) (M.eOf d q Y) w hi w1 w2 (by rw [M.qOf_len]; omega) (by rw [M.eOf_len]; omega) hne h1 h2
/-- what the reference's Decode answers -/
def RDecEnd (w : World) (p d q : Nat) (xs ys : List Nat) (e : Ending) (w' : World) : Prop :=
  Below w.heap.size w w' ∧ ((∃ f v, M.Good p d q xs ys f ∧ e = .returned (.tuple #[v, .bool true]) ∧ Nums w' v f) ∨ ((∀ f, ¬ M.Good p d q xs ys f) ∧ e = .returned (.tuple #[.slice none 0 0, .bool false])))

set_option maxHeartbeats 40000000 in
theorem rdecode_any (p d q : Nat) (v : Value) (xs ys : List Nat) (w : World) (hok : M.DOk p d xs ys) (hn : d + 1 + 2 * q ≤ xs.length) (hv : Pts w v xs ys) :
    Calls Try.prog 24 #[.int .u64 p, .int .i64 d, .int .i64 q, v] w (RDecEnd w p d q xs ys) := by
  have hud : ∀ b : Bool, undef ≠ Value.bool b := fun b h => by cases h
  obtain ⟨h3, hp⟩ := M.pos_of hok.isp
  have HV := Lib.hid hv
  have hyl := hv.1
  have hR64 := hok.len
  obtain ⟨n, en⟩ : ∃ n, n = d + 1 + q := ⟨_, rfl⟩
  have hn64 : n + q ≤ 64 := by omega
  have hqn : q < n := by omega
  have hnn : (d : Int) + 1 + q = (n : Nat) := by omega
  have hnn2 : (d : Int) + q + 1 = (n : Nat) := by omega
  obtain ⟨A, cap, rfl, hcap, hC⟩ := hv.2.2.2.2
  have HC := Lib.hid hC
  obtain ⟨R, eR⟩ : ∃ R, xs.length = R := ⟨_, rfl⟩
  have HER := Lib.hid eR
  have HEN := Lib.hid en
  have HOK := Lib.hid hok
  rw [eR] at HC ⊢
  have hwx := hok.wx
  have hwy := hok.wy
  rw [eR] at hyl
  have HWX := Lib.hid fun (i : Nat) (hi : i < R) => M.within_mem hwx (k := i) (by rw [eR]; exact hi)
  have HWY := Lib.hid fun (i : Nat) (hi : i < R) => M.within_mem hwy (k := i) (by rw [hyl]; exact hi)
  have HYL := Lib.hid hyl
  obtain ⟨i0, hi0, hz0, hz1, hz2⟩ := info_parts infoU64
  have HPW := Lib.hid fun (x : Nat) (hx : x < p) (j : Nat) (W : World) (hj : j < 1000) => refPow_any p x (by omega) hp hx j j W (Nat.le_refl _) (by omega)
  have HMU := Lib.hid fun (a b : Nat) (W : World) (ha : a < p) (hb : b < p) => refMul_any p a b W (by omega) hp ha hb
  have HSU := Lib.hid (show ∀ (b : Nat) (W : World), b < p → Calls Try.prog 38 #[.int .u64 p, .int .u64 0, .int .u64 b] W (fun e w' => e = .returned (.int .u64 ((0 + p - b) % p : Nat)) ∧ W = w') from fun b W hb => refSub_any p 0 b W (by omega) hp (by omega) hb)
  have hRR : R ≤ 64 := by omega
  clear hv hC en hok hwx hwy eR hyl
  go_enter Try.func24, Try.ntmps24
  go_wp2_with fail
  go_loopw [10, 11, 23] (fun tm tv t wr => ∃ (k : Nat) (G Cp : Nat → Nat), k ≤ R ∧ t = .int .i64 k ∧ MatA wr w.heap.size tm k (n + q) G Cp (M.bwF p d q xs ys) ∧ wr.ownsRow w.heap.size 22 1 tv k (vals ((M.bwR p q xs ys).take k)) ∧ (∀ i, i < k → tv.ownBlock ≠ some (G i)) ∧ Below w.heap.size w wr) (fun _ _ t _ => R - (intOf t).toNat)
  case atStart => exact ⟨0, _, _, by omega, rfl, MatA.start _ _ _ _, World.ownsRow_nil _ _ _ _, fun i hi => absurd hi (by omega), Below.refl _ _⟩
  case round =>
    obtain ⟨k, G, Cp, hk, rfl, hm, hv, hs, hB⟩ := hrel
    have HMA := Lib.hid hm
    have HVO := Lib.hid hv
    have HSP := Lib.hid hs
    have HB := Lib.hid hB
    clear hm hv hs hB
    by_cases hlt : k < R
    · obtain ⟨b, off, rfl, hb, hcell⟩ := HC.out (by omega)
      have hbs := HB.out.size
      have hc1 := (HB.out.cell (p := ⟨b, off + k * 2, none⟩) hb).trans (hcell k hlt).1
      have hc2 := (HB.out.cell (p := ⟨b, off + k * 2 + 1, none⟩) hb).trans (hcell k hlt).2
      have hb1 : wr.heap.size ≠ b := by omega
      have hxp := HWX.out k hlt
      have hyp := HWY.out k hlt
      have hF1 : ∀ j, j < n → M.bwF p d q xs ys k j = M.pw p (xs.getD k 0) j := fun j hj => by
        unfold M.bwF; rw [if_pos (by have := HEN.out; omega)]
      have hF2 : ∀ j, j < q → M.bwF p d q xs ys k (n + j) = (p - ys.getD k 0) * M.pw p (xs.getD k 0) j % p := fun j hj => by
        unfold M.bwF; rw [if_neg (by have := HEN.out; omega), show n + j - (d + 1 + q) = j by have := HEN.out; omega]
      have hRk : (M.bwR p q xs ys).getD k 0 = ys.getD k 0 * M.pw p (xs.getD k 0) q % p := by
        unfold M.bwR; rw [M.tabM_get, if_pos (by rw [HER.out]; exact hlt)]
      obtain ⟨x, hx⟩ : ∃ x, x = xs.getD k 0 := ⟨_, rfl⟩
      obtain ⟨y, hy⟩ : ∃ y, y = ys.getD k 0 := ⟨_, rfl⟩
      rw [← hx] at hc1 hxp hF1 hF2 hRk
      rw [← hy] at hc2 hyp hF2 hRk
      obtain ⟨F, eF⟩ : ∃ F : Nat → Nat, F = M.bwF p d q xs ys k := ⟨_, rfl⟩
      rw [← eF] at hF1 hF2
      have HF1 := Lib.hid hF1
      have HF2 := Lib.hid hF2
      have HEF := Lib.hid eF
      have HRK := Lib.hid hRk
      obtain ⟨bp, ebp⟩ : ∃ b, b = wr.heap.size := ⟨_, rfl⟩
      obtain ⟨WP, eWP⟩ : ∃ W, W = wr.alloc (.cells #[.int .u64 (x : Nat), .int .u64 (y : Nat)] 64) := ⟨_, rfl⟩
      have HWP := Lib.hid eWP
      have HBP := Lib.hid ebp
      have hp0 : WP.cell? ⟨bp, 0, none⟩ = some (.int .u64 (x : Nat)) := by rw [eWP, ebp]; simp
      have hp1 : WP.cell? ⟨bp, 1, none⟩ = some (.int .u64 (y : Nat)) := by rw [eWP, ebp]; simp
      have hpl : bp < WP.heap.size := by rw [eWP, ebp]; simp
      have HP0 := Lib.hid hp0
      have HP1 := Lib.hid hp1
      have HPL := Lib.hid hpl
      have HMP := Lib.hid (show MatA WP w.heap.size _ k (n + q) G Cp (M.bwF p d q xs ys) by rw [eWP]; exact HMA.out.below (balloc wr _) (Nat.le_refl _))
      have HVP := Lib.hid (show WP.ownsRow w.heap.size 22 1 _ k _ by rw [eWP]; exact HVO.out.alloc _)
      have HBP2 := Lib.hid (show Below w.heap.size w WP by rw [eWP]; exact HB.out.alloc hbs _)
      have HLM := Lib.hid (fun r hr => show r < bp by rw [ebp]; exact (HMA.out.own.lt r hr).2)
      have HLV := Lib.hid (fun r hr => show r < bp by rw [ebp]; exact (HVO.out.lt r hr).2)
      clear hx hy hcell hF1 hF2 hRk eF hp0 hp1 hpl HMA HVO HB
      clear eWP ebp
      go_wp2
      rw [← HWP.out]
      simp only [← HBP.out]
      go_loopw [14, 31] (fun tr t wi => ∃ j : Nat, j ≤ n ∧ t = .int .i64 j ∧ wi.ownsRow WP.heap.size 22 1 tr j (vals (M.tabM j F)) ∧ Below WP.heap.size WP wi) (fun _ t _ => n - (intOf t).toNat)
      case atStart => exact ⟨0, by omega, rfl, World.ownsRow_nil _ _ _ _, Below.refl _ _⟩
      case round =>
        obtain ⟨j, hj, rfl, ho, hB⟩ := hrel
        have HO := Lib.hid ho
        have HBI := Lib.hid hB
        clear ho hB
        by_cases hjn : j < n
        · have d0 := (HBI.out.cell (p := ⟨bp, 0, none⟩) HPL.out).trans HP0.out
          have HPC := Lib.hid fun W => HPW.out x hxp j W (by omega)
          have hFj := HF1.out j hjn
          have i3 : IntKind.u64.wrap (j : Int) = j := by rw [IntKind.wrap_u64]; omega
          obtain ⟨z, ez⟩ : ∃ z, z = M.pw p x j := ⟨_, rfl⟩
          rw [← ez] at HPC hFj
          have HFJ := Lib.hid hFj
          clear hFj ez
          go_wp2_with (first | (go_at_call 37; (with_reducible refine (HPC.out _).mono ?_); rintro e w1 ⟨rfl, rfl⟩) | (at_builtin; refine wpList_append_num rfl _ _ rfl rfl rfl HO.out (by omega) HBI.out.size ?_; intro v' w2 hown hbl))
          go_roundw
          case rel => exact ⟨j + 1, by omega, by go_num, by rw [tabM_succ, HFJ.out]; exact hown, HBI.out.trans hbl⟩
          case measure => simp [intOf]; omega
        · obtain rfl : n = j := by omega
          obtain ⟨bw, ebw⟩ : ∃ b, b = WP.heap.size := ⟨_, rfl⟩
          have HBW := Lib.hid ebw
          rw [← ebw] at HO HBI
          have HO2 := Lib.hid (show wr.ownsRow bw 22 1 _ (n + 0) (vals (M.tabM (n + 0) F)) from HO.out)
          clear HO ebw
          go_wp2
          go_loopw [14, 45] (fun tr t wi => ∃ j : Nat, j ≤ q ∧ t = .int .i64 j ∧ wi.ownsRow bw 22 1 tr (n + j) (vals (M.tabM (n + j) F)) ∧ Below bw WP wi) (fun _ t _ => q - (intOf t).toNat)
          case atStart => exact ⟨0, by omega, rfl, HO2.out, HBI.out⟩
          case round =>
            clear HO2 HBI
            obtain ⟨j, hj, rfl, ho, hB⟩ := hrel
            have HO := Lib.hid ho
            have HBI := Lib.hid hB
            clear ho hB
            by_cases hjq : j < q
            · have hbpl : bp < bw := by have := HPL.out; have := HBW.out; omega
              have d0 := (HBI.out.cell (p := ⟨bp, 0, none⟩) hbpl).trans HP0.out
              have d1 := (HBI.out.cell (p := ⟨bp, 1, none⟩) hbpl).trans HP1.out
              have hzl := M.pw_lt (p := p) x j (by omega)
              have HPC := Lib.hid fun W => HPW.out x hxp j W (by omega)
              have hFj := HF2.out j hjq
              have i3 : IntKind.u64.wrap (j : Int) = j := by rw [IntKind.wrap_u64]; omega
              obtain ⟨z, ez⟩ : ∃ z, z = M.pw p x j := ⟨_, rfl⟩
              rw [← ez] at HPC hFj hzl
              have HMC := Lib.hid fun W => HMU.out y z W hyp hzl
              obtain ⟨m, em⟩ : ∃ m, m = y * z % p := ⟨_, rfl⟩
              have hml : m < p := by rw [em]; exact Nat.mod_lt _ (by omega)
              rw [← em] at HMC
              have HSC := Lib.hid fun W => HSU.out m W hml
              have hneg := neg_mul_mod (p := p) (y := y) (z := z) (by omega)
              rw [← em, ← hFj] at hneg
              obtain ⟨u, eu⟩ : ∃ u, u = (0 + p - m) % p := ⟨_, rfl⟩
              rw [← eu] at HSC hneg
              have HU := Lib.hid hneg
              have hbs2 : bw ≤ wr.heap.size := by have := HBI.out.size; have := HBW.out; omega
              clear ez em eu hFj hneg
              go_wp2
              go_region_law (first
                | (go_simp; go_at_call 37; (with_reducible refine (HPC.out _).mono ?_); rintro e w1 ⟨rfl, rfl⟩)
                | (go_simp; go_at_call 39; (with_reducible refine (HMC.out _).mono ?_); rintro e w1 ⟨rfl, rfl⟩)
                | (go_simp; go_at_call 38; (with_reducible refine (HSC.out _).mono ?_); rintro e w1 ⟨rfl, rfl⟩)
                | (refine step_append_lies _ (by rfl) _ _ _ (by rfl) bw 22 i0 _ 1 8 Try.underlying31 hi0 hz0 hz1 hz2 rfl (by omega) _ (n + j) _ (by rfl) ((HO.out.alloc _).drew)
                    ⟨wr.heap.size, 0, none⟩ 1 1 [.int .u64 (u : Nat)] (by rfl) (by rfl) (World.news_of_block (cs := #[.int .u64 (u : Nat)]) (t := 22) (fr := (0, 0)) (heap_alloc_new wr _)) (by simp [Value.oneCell'])
                    (by omega) (by unfold maxLen; omega) (by omega) (by simp; omega) (wr.heap.size + 1) (by simp) ?_; intro gg cp w4 hown' hgrow hat hgl))
              all_goals
                have HB5 := Lib.hid (HBI.out.trans (((balloc wr (.cells #[.int .u64 (u : Nat)] 22)).drew.mono hbs2).grown hgrow (by simp; omega) (fun r hr => (HO.out.lt r hr).1)))
                have HO5 := Lib.hid (show w4.ownsRow bw 22 1 (.slice (some ⟨gg, 0, none⟩) (n + j + 1) cp) (n + (j + 1)) (vals (M.tabM (n + (j + 1)) F)) by rw [← Nat.add_assoc, tabM_succ, ← HU.out, show vals (M.tabM (n + j) F ++ [u]) = vals (M.tabM (n + j) F) ++ [.int .u64 (u : Nat)] by simp [vals]]; exact hown')
                clear hown' hgrow hat hgl
                go_wp2_with fail
                go_roundw
                case rel => exact ⟨j + 1, by omega, by go_num, HO5.out, HB5.out⟩
                case measure => simp [intOf]; omega
            · obtain rfl : q = j := by omega
              obtain ⟨gk, ck, rfl, hgk, hck, hrk⟩ := row_own (HO.out) (by omega)
              have hbpl : bp < bw := by have := HPL.out; have := HBW.out; omega
              have hws : bw ≤ wr.heap.size := by have := HBI.out.size; have := HBW.out; omega
              have HMI := Lib.hid (HMP.out.below HBI.out (by rw [HBW.out]; exact Nat.le_refl _))
              have hkeep : Below WP.heap.size WP wr := by rw [← HBW.out]; exact HBI.out
              have HVI := Lib.hid (own_keep HVP.out hkeep)
              have HBW0 := Lib.hid (bnext HBP2.out hkeep)
              have hs0 := HBW0.out.size
              have hwp : w.heap.size ≤ bw := by rw [HBW.out]; exact HBP2.out.size
              have HMI2 := Lib.hid (HMI.out.below (balloc wr (.cells #[.slice (some ⟨gk, 0, none⟩) (n + q) ck] 31)) (Nat.le_refl _))
              have HRK2 := Lib.hid (show Row (wr.alloc (.cells #[.slice (some ⟨gk, 0, none⟩) (n + q) ck] 31)) gk (n + q) (M.bwF p d q xs ys k) by rw [← HEF.out]; exact hrk.alloc _)
              have HNE := Lib.hid (show ∀ i, i < k → G i ≠ gk from fun i hi => by have := (HMP.out.row i hi).lt; rw [← HBW.out] at this; omega)
              have hk1000 : k ≤ 1000 := by omega
              have hs1 : w.heap.size ≤ (wr.alloc (.cells #[.slice (some ⟨gk, 0, none⟩) (n + q) ck] 31)).heap.size := by simp; omega
              have hX := heap_alloc_new wr (.cells #[.slice (some ⟨gk, 0, none⟩) (n + q) ck] 31)
              have HX := Lib.hid hX
              clear hrk hkeep hX
              go_wp2_with (at_builtin; refine wpList_append_rowG rfl _ _ rfl rfl (by rfl) HX.out HMI2.out HRK2.out (by omega) hck HNE.out hk1000 hs1 ?_; intro tm2 w6 hm6 hg6)
              have hBp6 : ∀ X : Addr, X.block = bp → w6.cell? X = WP.cell? X := fun X hXb => by
                refine (World.grownBy.cell_far hg6 X (by rw [hXb]; simp; omega) (fun e => by have := HLM.out _ e.symm; omega)).trans ?_
                refine ((balloc wr (.cells #[.slice (some ⟨gk, 0, none⟩) (n + q) ck] 31)).cell (p := X) (by rw [hXb]; omega)).trans ?_
                exact HBI.out.cell (by rw [hXb]; exact hbpl)
              have d0 := (hBp6 ⟨bp, 0, none⟩ rfl).trans HP0.out
              have d1 := (hBp6 ⟨bp, 1, none⟩ rfl).trans HP1.out
              have hap := own_apart (HVI.out.alloc (.cells #[.slice (some ⟨gk, 0, none⟩) (n + q) ck] 31)) HMI2.out.own (by decide)
              have HV6 := Lib.hid ((HVI.out.alloc (.cells #[.slice (some ⟨gk, 0, none⟩) (n + q) ck] 31)).kept hg6 hap)
              have HB6 := Lib.hid ((HBW0.out.alloc hs0 (.cells #[.slice (some ⟨gk, 0, none⟩) (n + q) ck] 31)).grown hg6 hs1 (fun r hr => (HMI2.out.own.lt r hr).1))
              have HM6 := Lib.hid hm6
              have hs6 := HB6.out.size
              have hb6p : bp < w6.heap.size := by have := hg6.size; simp at this; omega
              have hzl := M.pw_lt (p := p) x q (by omega)
              have HPC := Lib.hid fun W => HPW.out x hxp q W (by omega)
              have hrk := HRK.out
              have i3 : IntKind.u64.wrap (q : Int) = q := by rw [IntKind.wrap_u64]; omega
              obtain ⟨z, ez⟩ : ∃ z, z = M.pw p x q := ⟨_, rfl⟩
              rw [← ez] at HPC hrk hzl
              have HMC := Lib.hid fun W => HMU.out y z W hyp hzl
              obtain ⟨u, eu⟩ : ∃ u, u = y * z % p := ⟨_, rfl⟩
              rw [← eu] at HMC hrk
              have HRK3 := Lib.hid hrk
              have HSP2 := Lib.hid (own_new HSP.out HLV.out (show bp ≤ gk by omega))
              clear hm6 hg6 hap hBp6 ez eu hrk
              go_wp2
              go_region_law (first
                | (go_simp; go_at_call 37; (with_reducible refine (HPC.out _).mono ?_); rintro e w1 ⟨rfl, rfl⟩)
                | (go_simp; go_at_call 39; (with_reducible refine (HMC.out _).mono ?_); rintro e w1 ⟨rfl, rfl⟩)
                | (refine step_append_lies _ (by rfl) _ _ _ (by rfl) w.heap.size 22 i0 _ 1 8 Try.underlying31 hi0 hz0 hz1 hz2 rfl (by omega) _ k _ (by rfl) ((HV6.out.alloc _).drew)
                    ⟨w6.heap.size, 0, none⟩ 1 1 [.int .u64 (u : Nat)] (by rfl) (by rfl) (World.news_of_block (cs := #[.int .u64 (u : Nat)]) (t := 22) (fr := (0, 0)) (heap_alloc_new w6 _)) (by simp [Value.oneCell'])
                    (by omega) (by unfold maxLen; omega) (by omega) (by simp; omega) (w6.heap.size + 1) (by simp) ?_; intro gg cp w7 hown' hgrow hat hgl))
              all_goals
                have HM7 := Lib.hid (MatA.grownBy (w := (w6.alloc (.cells #[.int .u64 (u : Nat)] 22)).drew) (show MatA (w6.alloc (.cells #[.int .u64 (u : Nat)] 22)).drew w.heap.size _ (k + 1) (n + q) _ _ _ from HM6.out.below ((balloc w6 (.cells #[.int .u64 (u : Nat)] 22)).drew) (Nat.le_refl _)) hgrow (own_apart HM6.out.own HV6.out (by decide)) (fun i hi e => HSP2.out i hi e.symm))
                have HB7 := Lib.hid (((HB6.out.alloc hs6 (.cells #[.int .u64 (u : Nat)] 22)).drew).grown hgrow (by simp; omega) (fun r hr => (HV6.out.lt r hr).1))
                have HS7 := Lib.hid (show ∀ i, i < k + 1 → (Value.slice (some ⟨gg, 0, none⟩) (k + 1) cp).ownBlock ≠ some (if i = k then gk else G i) from fun i hi e => by
                  have e2 : gg = (if i = k then gk else G i) := by simpa [Value.ownBlock] using e
                  rcases hat with h | h
                  · exact HSP2.out i hi (h.trans (by rw [← e2]))
                  · have := (HM6.out.row i hi).lt
                    rw [← e2] at this
                    omega)
                have HV7 := Lib.hid (show w7.ownsRow w.heap.size 22 1 (.slice (some ⟨gg, 0, none⟩) (k + 1) cp) (k + 1) (vals ((M.bwR p q xs ys).take (k + 1))) by rw [vals_take_snoc (by rw [M.bwR_len, HER.out]; exact hlt), HRK3.out]; exact hown')
                clear hown' hgrow hat hgl
                go_wp2_with fail
                go_roundw
                case rel => exact ⟨k + 1, _, _, by omega, by go_num, HM7.out, HV7.out, HS7.out, HB7.out⟩
                case measure => simp [intOf]; omega
    · obtain rfl : R = k := by omega
      have hok := HOK.out
      have hbl : M.tabMM R (n + q) (M.bwF p d q xs ys) = M.bwL p d q xs ys := by unfold M.bwL; rw [HER.out, show d + 1 + 2 * q = n + q by have := HEN.out; omega]
      have hrl : (M.bwR p q xs ys).length = R := by rw [M.bwR_len, HER.out]
      have hmat := HMA.out.mat (by omega) (by omega) (fun i hi j hj => by have := M.bwF_lt (p := p) (d := d) (w := q) (by omega) xs ys i j; omega)
      rw [hbl] at hmat
      have hvo := HVO.out
      rw [List.take_of_length_le (by omega)] at hvo
      have hnum := nums_of_owns hvo (fun z hz => by have := M.bwR_lt (p := p) (by omega) q xs ys; unfold M.within at this; have := List.all_eq_true.1 this z hz; simp at this; omega) (by omega)
      have hOK : M.Ok p (M.bwL p d q xs ys) R (n + q) := by
        have := M.bwL_ok (d := d) (w := q) (ys := ys) hok.isp hok.len hn
        rw [HER.out, show d + 1 + 2 * q = n + q by have := HEN.out; omega] at this
        exact this
      have HS := Lib.hid (rsolve_any p R (n + q) _ (M.bwL p d q xs ys) _ (M.bwR p q xs ys) wr hOK hmat hnum hrl (M.bwR_lt (by omega) q xs ys))
      obtain ⟨Am, cm, rfl⟩ := HMA.out.form
      obtain ⟨Av, cv, rfl⟩ := nums_slice' hnum
      rw [hrl] at HS
      have heK : d + 1 + 2 * q = n + q := by have := HEN.out; omega
      have HEK := Lib.hid heK
      have HPQ := Lib.hid hn
      clear hmat hvo hnum hOK hbl hok HMA HVO HSP heK hn
      go_wp2_with fail
      refine HS.out.mono ?_
      rintro e w1 ⟨hb, ⟨hst, rfl⟩ | ⟨hst, g, cp, rfl, hg, hcp, hrow⟩⟩
      · have B1 := Lib.hid (bnext HB.out hb)
        have HST := Lib.hid hst
        clear hb hst
        go_wp2
        go_ret2
        refine ⟨B1.out, .inr ⟨fun f => M.bw_stuck HOK.out.isp HOK.out.len HPQ.out HOK.out.nod HOK.out.wx HOK.out.wy (HYL.out.trans HER.out.symm) (by unfold M.bwS; rw [HER.out, HEK.out]; exact HST.out) f, rfl⟩⟩
      · have B1 := Lib.hid (bnext HB.out hb)
        have hsol := M.bw_solved HOK.out.isp HOK.out.len HPQ.out HOK.out.wy (HYL.out.trans HER.out.symm) (d := d) (w := q) (by unfold M.bwS; rw [HER.out, HEK.out]; exact hst)
        have hrow' : Row w1 g (n + q) (M.bwY p d q xs ys) := by unfold M.bwY M.bwS; rw [HER.out, HEK.out]; exact hrow
        obtain ⟨Y, eY⟩ : ∃ Y, Y = M.bwY p d q xs ys := ⟨_, rfl⟩
        rw [← eY] at hsol hrow'
        have HROW := Lib.hid hrow'
        have HSOL := Lib.hid hsol
        have HDV := Lib.hid fun (f r : List Nat) (c : M.IsDiv p (M.trim (M.qOf d q Y)) (M.trim (M.eOf d q Y)) f r) => M.bw_div HOK.out.isp HPQ.out HOK.out.nod HOK.out.wx HOK.out.wy (HYL.out.trans HER.out.symm) hsol.1 hsol.2 c
        have HV1 := Lib.hid (HV.out.below (B1.out.mono (Nat.le_refl _)))
        have hYlt : ∀ j, j < n + q → Y j < 18446744073709551616 := fun j hj => by have := HSOL.out.1 j (by have := HEK.out; omega); omega
        have HYT := Lib.hid hYlt
        clear hb hst hrow hrow' hsol hYlt eY
        have hw0 : IntKind.i64.wrap (IntKind.i64.wrap ((d : Int) + q) + 1) = (n : Nat) := by
          rw [IntWalk.i64_in ((d : Int) + q) (by omega), IntWalk.i64_in _ (by omega)]; omega
        have hgl := HROW.out.lt
        have hd63 := HOK.out.d63
        by_cases hq00 : q = 0
        · subst hq00
          have hw1 : IntKind.i64.wrap (IntKind.i64.wrap (d : Int) + 1) = (n : Nat) := by
            rw [IntWalk.i64_in (d : Int) (by omega), IntWalk.i64_in _ (by omega)]; omega
          have hw2 : IntKind.i64.wrap ((d : Int) + 1) = (n : Nat) := by
            rw [IntWalk.i64_in _ (by omega)]; omega
          by_cases hcm : cp = n
          · subst hcm
            have hbw0 : Below w1.heap.size w1 (w1.alloc (.cells #[] 22)).drew := (balloc w1 (.cells #[] 22)).drew
            have hbw2 : Below w1.heap.size w1 ((w1.alloc (.cells #[] 22)).alloc (.cells #[.int .u64 1] 22)).drew := ((balloc w1 (.cells #[] 22)).alloc (by simp) (.cells #[.int .u64 1] 22)).drew
            have ho1 : (w1.alloc (.cells #[] 22)).drew.ownsRow w1.heap.size 22 1 (.slice (some ⟨w1.heap.size, 0, none⟩) 0 0) 0 [] := World.ownsRow_made (base := w1.heap.size) (e := 22) (size := 1) w1 #[] 0 (Nat.le_refl _) (by decide) rfl
            have ho2 : ((w1.alloc (.cells #[] 22)).alloc (.cells #[.int .u64 1] 22)).drew.ownsRow w1.heap.size 22 1 (.slice (some ⟨w1.heap.size, 0, none⟩) 0 0) 0 [] := ho1.alloc _
            have hx1 : ((w1.alloc (.cells #[] 22)).alloc (.cells #[.int .u64 1] 22)).drew.heap[w1.heap.size + 1]? = some (.cells #[.int .u64 1] 22 (0, 0)) := by
              have h := heap_alloc_new (w1.alloc (.cells #[] 22)) (.cells #[.int .u64 1] 22)
              rw [World.size_alloc] at h
              exact h
            have hbw3 : Below w1.heap.size w1 ((w1.alloc (.cells #[.int .u64 1] 22)).alloc (.cells #[] 22)).drew := ((balloc w1 (.cells #[.int .u64 1] 22)).alloc (by simp) (.cells #[] 22)).drew
            have ho3 : ((w1.alloc (.cells #[.int .u64 1] 22)).alloc (.cells #[] 22)).drew.ownsRow w1.heap.size 22 1 (.slice (some ⟨w1.heap.size + 1, 0, none⟩) 0 0) 0 [] := by
              have h := World.ownsRow_made (base := w1.heap.size) (e := 22) (size := 1) (w1.alloc (.cells #[.int .u64 1] 22)) #[] 0 (by simp) (by decide) rfl
              rw [World.size_alloc] at h
              exact h
            have hx3 : ((w1.alloc (.cells #[.int .u64 1] 22)).alloc (.cells #[] 22)).drew.heap[w1.heap.size]? = some (.cells #[.int .u64 1] 22 (0, 0)) := (Below.heap_alloc (w1.alloc (.cells #[.int .u64 1] 22)) (.cells #[] 22) w1.heap.size (by simp)).trans (heap_alloc_new w1 _)
            have HPR := Lib.hid (show Nums w1 (.slice (some ⟨g, 0, none⟩) cp cp) (M.tabM cp Y) from HROW.out.nums (by omega) (by omega) (by omega) HYT.out)
            have HD := Lib.hid fun (W : World) (u1 u2 : Value) (a : Nums W u1 (M.tabM cp Y)) (b : Nums W u2 [1]) => rdec_div p d 0 cp u1 u2 Y W [] HOK.out.isp HEN.out (by simp [M.tabM]) HSOL.out.1 (by omega) a b
            have hnw := World.news_of_block (w := ((w1.alloc (.cells #[] 22)).alloc (.cells #[.int .u64 1] 22)).drew) (cs := #[.int .u64 1]) (t := 22) (fr := (0, 0)) hx1
            have hnw3 := World.news_of_block (w := ((w1.alloc (.cells #[.int .u64 1] 22)).alloc (.cells #[] 22)).drew) (cs := #[.int .u64 1]) (t := 22) (fr := (0, 0)) hx3
            go_wp2
            go_region_law (first
              | (refine step_append_lies _ (by rfl) _ _ _ (by rfl) w1.heap.size 22 i0 _ 1 8 Try.underlying31 hi0 hz0 hz1 hz2 rfl (by omega) (.slice (some ⟨w1.heap.size, 0, none⟩) 0 0) 0 _ (by rfl) ho2
                  ⟨w1.heap.size + 1, 0, none⟩ 1 1 [.int .u64 1] (by rfl) (by rfl) hnw (by simp [Value.oneCell'])
                  (by omega) (by unfold maxLen; omega) (by omega) (by simp <;> omega) (w1.heap.size + 1 + 1) (by simp) ?_; intro gg c3 w3 hown3 hgrow3 hat3 hgl3; have hb30 : Below w1.heap.size w1 w3 := hbw2.grown hgrow3 (by simp <;> omega) (fun r hr => (ho2.lt r hr).1); have hN3 : Nums w3 (.slice (some ⟨gg, 0, none⟩) 1 c3) [1] := rdec_loc (zs := []) hown3 (by simp) (by simp); have hP3 := HPR.out.below hb30)
              | (refine step_append_lies _ (by rfl) _ _ _ (by rfl) w1.heap.size 22 i0 _ 1 8 Try.underlying31 hi0 hz0 hz1 hz2 rfl (by omega) (.slice (some ⟨w1.heap.size + 1, 0, none⟩) 0 0) 0 _ (by rfl) ho3
                  ⟨w1.heap.size, 0, none⟩ 1 1 [.int .u64 1] (by rfl) (by rfl) hnw3 (by simp [Value.oneCell'])
                  (by omega) (by unfold maxLen; omega) (by omega) (by simp <;> omega) (w1.heap.size + 1 + 1) (by simp) ?_; intro gg c3 w3 hown3 hgrow3 hat3 hgl3; have hb30 : Below w1.heap.size w1 w3 := hbw3.grown hgrow3 (by simp <;> omega) (fun r hr => (ho3.lt r hr).1); have hN3 : Nums w3 (.slice (some ⟨gg, 0, none⟩) 1 c3) [1] := rdec_loc (zs := []) hown3 (by simp) (by simp); have hP3 := HPR.out.below hb30)
              | (go_simp; go_at_call 41; (with_reducible refine (HD.out _ _ _ hP3 hN3).mono ?_); rintro e w4 ⟨vq, vr, f, r, rfl, hf, hr, hdiv, hb4⟩))
            --PEEK
            all_goals
              have B4 := Lib.hid (bnext B1.out (bnext hb30 hb4))
              have HF := Lib.hid hf
              have V4 := Lib.hid (HV1.out.below (bnext hb30 hb4))
              have hgood := HDV.out f r hdiv
              obtain ⟨Af, cf, rfl⟩ := nums_slice' hf
              obtain ⟨Ar, cr, rfl⟩ := nums_slice' hr
              by_cases hr0 : r = []
              · subst hr0
                have HG := Lib.hid (hgood.1 rfl)
                have hfl := HG.out.len
                have hfl2 : ¬ ((d : Int) + 1 < (f.length : Nat)) := by omega
                have HOF := Lib.hid (roff_any p _ _ f xs ys w4 h3 hp HG.out.lt HOK.out.len HOK.out.wx HF.out V4.out)
                rw [HER.out] at HOF
                clear hgood hdiv hb4 hf hr hb30 hown3 hgrow3 hat3 hgl3 hN3 hP3 hbw0 hbw2 ho1 ho2 hx1 hnw hbw3 ho3 hx3 hnw3
                go_wp2_with (go_at_call 25; refine HOF.out.mono ?_; rintro e w5 ⟨u5, rfl, ho5, hb5⟩; obtain ⟨A5, c5, rfl⟩ := ints_slice (ints_of_owns ho5); have hol := HG.out.few; have B5 := Lib.hid (bnext B4.out hb5); have HF5 := Lib.hid (HF.out.below hb5); clear hb5 ho5)
                go_ret2
                exact ⟨B5.out, .inl ⟨f, _, HG.out, rfl, HF5.out⟩⟩
              · have HG := Lib.hid (hgood.2 hr0)
                have hrl : 0 < r.length := List.length_pos_iff.2 hr0
                clear hgood hdiv hb4 hf hr hb30 hown3 hgrow3 hat3 hgl3 hN3 hP3 hr0 hbw0 hbw2 ho1 ho2 hx1 hnw hbw3 ho3 hx3 hnw3
                go_wp2
                go_ret2
                exact ⟨B4.out, .inr ⟨HG.out, rfl⟩⟩

          · have hnle : (n : Int) ≤ (cp : Nat) := by omega
            have hnle3 : n ≤ cp := by omega
            have hbw0 : Below w1.heap.size w1 (w1.alloc (.cells #[] 22)).drew := (balloc w1 (.cells #[] 22)).drew
            have hbw2 : Below w1.heap.size w1 ((w1.alloc (.cells #[] 22)).alloc (.cells #[.int .u64 1] 22)).drew := ((balloc w1 (.cells #[] 22)).alloc (by simp) (.cells #[.int .u64 1] 22)).drew
            have ho1 : (w1.alloc (.cells #[] 22)).drew.ownsRow w1.heap.size 22 1 (.slice (some ⟨w1.heap.size, 0, none⟩) 0 0) 0 [] := World.ownsRow_made (base := w1.heap.size) (e := 22) (size := 1) w1 #[] 0 (Nat.le_refl _) (by decide) rfl
            have ho2 : ((w1.alloc (.cells #[] 22)).alloc (.cells #[.int .u64 1] 22)).drew.ownsRow w1.heap.size 22 1 (.slice (some ⟨w1.heap.size, 0, none⟩) 0 0) 0 [] := ho1.alloc _
            have hx1 : ((w1.alloc (.cells #[] 22)).alloc (.cells #[.int .u64 1] 22)).drew.heap[w1.heap.size + 1]? = some (.cells #[.int .u64 1] 22 (0, 0)) := by
              have h := heap_alloc_new (w1.alloc (.cells #[] 22)) (.cells #[.int .u64 1] 22)
              rw [World.size_alloc] at h
              exact h
            have hbw3 : Below w1.heap.size w1 ((w1.alloc (.cells #[.int .u64 1] 22)).alloc (.cells #[] 22)).drew := ((balloc w1 (.cells #[.int .u64 1] 22)).alloc (by simp) (.cells #[] 22)).drew
            have ho3 : ((w1.alloc (.cells #[.int .u64 1] 22)).alloc (.cells #[] 22)).drew.ownsRow w1.heap.size 22 1 (.slice (some ⟨w1.heap.size + 1, 0, none⟩) 0 0) 0 [] := by
              have h := World.ownsRow_made (base := w1.heap.size) (e := 22) (size := 1) (w1.alloc (.cells #[.int .u64 1] 22)) #[] 0 (by simp) (by decide) rfl
              rw [World.size_alloc] at h
              exact h
            have hx3 : ((w1.alloc (.cells #[.int .u64 1] 22)).alloc (.cells #[] 22)).drew.heap[w1.heap.size]? = some (.cells #[.int .u64 1] 22 (0, 0)) := (Below.heap_alloc (w1.alloc (.cells #[.int .u64 1] 22)) (.cells #[] 22) w1.heap.size (by simp)).trans (heap_alloc_new w1 _)
            have HPR := Lib.hid (show Nums w1 (.slice (some ⟨g, 0, none⟩) n cp) (M.tabM n Y) from HROW.out.nums (by omega) (by omega) (by omega) HYT.out)
            have HD := Lib.hid fun (W : World) (u1 u2 : Value) (a : Nums W u1 (M.tabM n Y)) (b : Nums W u2 [1]) => rdec_div p d 0 n u1 u2 Y W [] HOK.out.isp HEN.out (by simp [M.tabM]) HSOL.out.1 (by omega) a b
            have hnw := World.news_of_block (w := ((w1.alloc (.cells #[] 22)).alloc (.cells #[.int .u64 1] 22)).drew) (cs := #[.int .u64 1]) (t := 22) (fr := (0, 0)) hx1
            have hnw3 := World.news_of_block (w := ((w1.alloc (.cells #[.int .u64 1] 22)).alloc (.cells #[] 22)).drew) (cs := #[.int .u64 1]) (t := 22) (fr := (0, 0)) hx3
            go_wp2
            go_region_law (first
              | (refine step_append_lies _ (by rfl) _ _ _ (by rfl) w1.heap.size 22 i0 _ 1 8 Try.underlying31 hi0 hz0 hz1 hz2 rfl (by omega) (.slice (some ⟨w1.heap.size, 0, none⟩) 0 0) 0 _ (by rfl) ho2
                  ⟨w1.heap.size + 1, 0, none⟩ 1 1 [.int .u64 1] (by rfl) (by rfl) hnw (by simp [Value.oneCell'])
                  (by omega) (by unfold maxLen; omega) (by omega) (by simp <;> omega) (w1.heap.size + 1 + 1) (by simp) ?_; intro gg c3 w3 hown3 hgrow3 hat3 hgl3; have hb30 : Below w1.heap.size w1 w3 := hbw2.grown hgrow3 (by simp <;> omega) (fun r hr => (ho2.lt r hr).1); have hN3 : Nums w3 (.slice (some ⟨gg, 0, none⟩) 1 c3) [1] := rdec_loc (zs := []) hown3 (by simp) (by simp); have hP3 := HPR.out.below hb30)
              | (refine step_append_lies _ (by rfl) _ _ _ (by rfl) w1.heap.size 22 i0 _ 1 8 Try.underlying31 hi0 hz0 hz1 hz2 rfl (by omega) (.slice (some ⟨w1.heap.size + 1, 0, none⟩) 0 0) 0 _ (by rfl) ho3
                  ⟨w1.heap.size, 0, none⟩ 1 1 [.int .u64 1] (by rfl) (by rfl) hnw3 (by simp [Value.oneCell'])
                  (by omega) (by unfold maxLen; omega) (by omega) (by simp <;> omega) (w1.heap.size + 1 + 1) (by simp) ?_; intro gg c3 w3 hown3 hgrow3 hat3 hgl3; have hb30 : Below w1.heap.size w1 w3 := hbw3.grown hgrow3 (by simp <;> omega) (fun r hr => (ho3.lt r hr).1); have hN3 : Nums w3 (.slice (some ⟨gg, 0, none⟩) 1 c3) [1] := rdec_loc (zs := []) hown3 (by simp) (by simp); have hP3 := HPR.out.below hb30)
              | (go_simp; go_at_call 41; (with_reducible refine (HD.out _ _ _ hP3 hN3).mono ?_); rintro e w4 ⟨vq, vr, f, r, rfl, hf, hr, hdiv, hb4⟩))
            --PEEK
            all_goals
              have B4 := Lib.hid (bnext B1.out (bnext hb30 hb4))
              have HF := Lib.hid hf
              have V4 := Lib.hid (HV1.out.below (bnext hb30 hb4))
              have hgood := HDV.out f r hdiv
              obtain ⟨Af, cf, rfl⟩ := nums_slice' hf
              obtain ⟨Ar, cr, rfl⟩ := nums_slice' hr
              by_cases hr0 : r = []
              · subst hr0
                have HG := Lib.hid (hgood.1 rfl)
                have hfl := HG.out.len
                have hfl2 : ¬ ((d : Int) + 1 < (f.length : Nat)) := by omega
                have HOF := Lib.hid (roff_any p _ _ f xs ys w4 h3 hp HG.out.lt HOK.out.len HOK.out.wx HF.out V4.out)
                rw [HER.out] at HOF
                clear hgood hdiv hb4 hf hr hb30 hown3 hgrow3 hat3 hgl3 hN3 hP3 hbw0 hbw2 ho1 ho2 hx1 hnw hbw3 ho3 hx3 hnw3
                go_wp2_with (go_at_call 25; refine HOF.out.mono ?_; rintro e w5 ⟨u5, rfl, ho5, hb5⟩; obtain ⟨A5, c5, rfl⟩ := ints_slice (ints_of_owns ho5); have hol := HG.out.few; have B5 := Lib.hid (bnext B4.out hb5); have HF5 := Lib.hid (HF.out.below hb5); clear hb5 ho5)
                go_ret2
                exact ⟨B5.out, .inl ⟨f, _, HG.out, rfl, HF5.out⟩⟩
              · have HG := Lib.hid (hgood.2 hr0)
                have hrl : 0 < r.length := List.length_pos_iff.2 hr0
                clear hgood hdiv hb4 hf hr hb30 hown3 hgrow3 hat3 hgl3 hN3 hP3 hr0 hbw0 hbw2 ho1 ho2 hx1 hnw hbw3 ho3 hx3 hnw3
                go_wp2
                go_ret2
                exact ⟨B4.out, .inr ⟨HG.out, rfl⟩⟩

        · have hqpos : 0 < q := by omega
          have hnle : (n : Int) ≤ (cp : Nat) := by omega
          have hnle3 : n ≤ cp := by omega
          have hcm : ¬ cp = n := by omega
          have hnle4 : (n : Int) ≤ (n : Int) + q := by omega
          have hnle5 : n ≤ n + q := by omega
          have hcq : n + q - n = q := by omega
          have hbw0 : Below w1.heap.size w1 (w1.alloc (.cells #[] 22)).drew := (balloc w1 (.cells #[] 22)).drew
          have hbw2 : Below w1.heap.size w1 ((w1.alloc (.cells #[] 22)).alloc (.cells #[.int .u64 1] 22)).drew := ((balloc w1 (.cells #[] 22)).alloc (by simp) (.cells #[.int .u64 1] 22)).drew
          have ho1 : (w1.alloc (.cells #[] 22)).drew.ownsRow w1.heap.size 22 1 (.slice (some ⟨w1.heap.size, 0, none⟩) 0 0) 0 [] := World.ownsRow_made (base := w1.heap.size) (e := 22) (size := 1) w1 #[] 0 (Nat.le_refl _) (by decide) rfl
          have ho2 : ((w1.alloc (.cells #[] 22)).alloc (.cells #[.int .u64 1] 22)).drew.ownsRow w1.heap.size 22 1 (.slice (some ⟨w1.heap.size, 0, none⟩) 0 0) 0 [] := ho1.alloc _
          have hx1 : ((w1.alloc (.cells #[] 22)).alloc (.cells #[.int .u64 1] 22)).drew.heap[w1.heap.size + 1]? = some (.cells #[.int .u64 1] 22 (0, 0)) := by
            have h := heap_alloc_new (w1.alloc (.cells #[] 22)) (.cells #[.int .u64 1] 22)
            rw [World.size_alloc] at h
            exact h
          have hbw3 : Below w1.heap.size w1 ((w1.alloc (.cells #[.int .u64 1] 22)).alloc (.cells #[] 22)).drew := ((balloc w1 (.cells #[.int .u64 1] 22)).alloc (by simp) (.cells #[] 22)).drew
          have ho3 : ((w1.alloc (.cells #[.int .u64 1] 22)).alloc (.cells #[] 22)).drew.ownsRow w1.heap.size 22 1 (.slice (some ⟨w1.heap.size + 1, 0, none⟩) 0 0) 0 [] := by
            have h := World.ownsRow_made (base := w1.heap.size) (e := 22) (size := 1) (w1.alloc (.cells #[.int .u64 1] 22)) #[] 0 (by simp) (by decide) rfl
            rw [World.size_alloc] at h
            exact h
          have hx3 : ((w1.alloc (.cells #[.int .u64 1] 22)).alloc (.cells #[] 22)).drew.heap[w1.heap.size]? = some (.cells #[.int .u64 1] 22 (0, 0)) := (Below.heap_alloc (w1.alloc (.cells #[.int .u64 1] 22)) (.cells #[] 22) w1.heap.size (by simp)).trans (heap_alloc_new w1 _)
          obtain ⟨zs, ezs⟩ : ∃ zs, zs = M.tabM q fun j => Y (n + j) := ⟨_, rfl⟩
          have hzl : zs.length = q := by rw [ezs, M.tabM_len]
          have HCELL : ∀ j u, (vals zs)[j]? = some u → w1.cell? ((⟨g, n, none⟩ : Addr).add j) = some u := fun j u hu => by
            have hj : j < q := by have := (List.getElem?_eq_some_iff.1 hu).1; simpa [vals, ezs, M.tabM] using this
            rw [Addr.add_lit, HROW.out.cell (j := n + j) (by omega), ← hu, ezs]
            simp [vals, M.tabM, hj]
          have hc1 : ∀ j u, (vals zs)[j]? = some u → (w1.alloc (.cells #[] 22)).drew.cell? ((⟨g, n, none⟩ : Addr).add j) = some u := fun j u hu => by have h := HCELL j u hu; rw [Addr.add_lit] at h ⊢; exact (hbw0.cell (p := ⟨g, n + j, none⟩) hgl).trans h
          have hc2 : ∀ j u, (vals zs)[j]? = some u → ((w1.alloc (.cells #[] 22)).alloc (.cells #[.int .u64 1] 22)).drew.cell? ((⟨g, n, none⟩ : Addr).add j) = some u := fun j u hu => by have h := HCELL j u hu; rw [Addr.add_lit] at h ⊢; exact (hbw2.cell (p := ⟨g, n + j, none⟩) hgl).trans h
          have hc3 : ∀ j u, (vals zs)[j]? = some u → ((w1.alloc (.cells #[.int .u64 1] 22)).alloc (.cells #[] 22)).drew.cell? ((⟨g, n, none⟩ : Addr).add j) = some u := fun j u hu => by have h := HCELL j u hu; rw [Addr.add_lit] at h ⊢; exact (hbw3.cell (p := ⟨g, n + j, none⟩) hgl).trans h
          have hvl : (vals zs).length = q * 1 := by simp [vals, hzl]
          have hv1 : ∀ u ∈ vals zs, u.oneCell' = true := vals_one zs
          have HPR := Lib.hid (show Nums w1 (.slice (some ⟨g, 0, none⟩) n cp) (M.tabM n Y) from HROW.out.nums (by omega) (by omega) (by omega) HYT.out)
          have HD := Lib.hid fun (W : World) (u1 u2 : Value) (a : Nums W u1 (M.tabM n Y)) (b : Nums W u2 (zs ++ [1])) => rdec_div p d q n u1 u2 Y W zs HOK.out.isp HEN.out ezs HSOL.out.1 (by omega) a b
          have hz64 : ∀ z ∈ zs ++ [1], z < 18446744073709551616 := fun z hz => by
            rcases List.mem_append.1 hz with h | h
            · rw [ezs] at h
              unfold M.tabM at h
              obtain ⟨j, hj, rfl⟩ := List.mem_map.1 h
              exact HYT.out _ (by have := List.mem_range.1 hj; omega)
            · simp at h; omega
          have HZ64 := Lib.hid hz64
          have hq0 : 0 < q := hqpos
          have HZL := Lib.hid hzl
          clear hz64 ezs hzl HCELL
          go_wp2
          go_region_law (first
            | (refine step_append_lies _ (by rfl) _ _ _ (by rfl) w1.heap.size 22 i0 _ 1 8 Try.underlying31 hi0 hz0 hz1 hz2 rfl (by omega) (.slice (some ⟨w1.heap.size, 0, none⟩) 0 0) 0 _ (by rfl) ho1
                ⟨g, n, none⟩ q (cp - n) (vals zs) (by rfl) hvl hc1 hv1
                hq0 (by unfold maxLen; omega) (by omega) (by simp <;> omega) (w1.heap.size + 1) (by simp) ?_; intro g2 c2 w2 hown2 hgrow2 hat2 hgl2; have hb20 : Below w1.heap.size w1 w2 := hbw0.grown hgrow2 (by simp <;> omega) (fun r hr => (ho1.lt r hr).1))
            | (refine step_append_lies _ (by rfl) _ _ _ (by rfl) w1.heap.size 22 i0 _ 1 8 Try.underlying31 hi0 hz0 hz1 hz2 rfl (by omega) (.slice (some ⟨w1.heap.size, 0, none⟩) 0 0) 0 _ (by rfl) ho2
                ⟨g, n, none⟩ q (cp - n) (vals zs) (by rfl) hvl hc2 hv1
                hq0 (by unfold maxLen; omega) (by omega) (by simp <;> omega) (w1.heap.size + 1 + 1) (by simp) ?_; intro g2 c2 w2 hown2 hgrow2 hat2 hgl2; have hb20 : Below w1.heap.size w1 w2 := hbw2.grown hgrow2 (by simp <;> omega) (fun r hr => (ho2.lt r hr).1); have hx2 : w2.heap[w1.heap.size + 1]? = some (.cells #[.int .u64 1] 22 (0, 0)) := (hgrow2.block _ (by simp <;> omega) (by simp [Value.ownBlock])).trans hx1)
            | (refine step_append_lies _ (by rfl) _ _ _ (by rfl) w1.heap.size 22 i0 _ 1 8 Try.underlying31 hi0 hz0 hz1 hz2 rfl (by omega) (.slice (some ⟨w1.heap.size + 1, 0, none⟩) 0 0) 0 _ (by rfl) ho3
                ⟨g, n, none⟩ q (cp - n) (vals zs) (by rfl) hvl hc3 hv1
                hq0 (by unfold maxLen; omega) (by omega) (by simp <;> omega) (w1.heap.size + 1 + 1) (by simp) ?_; intro g2 c2 w2 hown2 hgrow2 hat2 hgl2; have hb20 : Below w1.heap.size w1 w2 := hbw3.grown hgrow2 (by simp <;> omega) (fun r hr => (ho3.lt r hr).1); have hx2' : w2.heap[w1.heap.size]? = some (.cells #[.int .u64 1] 22 (0, 0)) := (hgrow2.block _ (by simp <;> omega) (by simp [Value.ownBlock])).trans hx3)
            | (refine step_append_lies _ (by rfl) _ _ _ (by rfl) w1.heap.size 22 i0 _ 1 8 Try.underlying31 hi0 hz0 hz1 hz2 rfl (by omega) (.slice (some ⟨g2, 0, none⟩) q c2) q _ (by rfl) (own_zero hown2 |>.alloc _)
                ⟨w2.heap.size, 0, none⟩ 1 1 [.int .u64 1] (by rfl) (by rfl) (World.news_of_block (cs := #[.int .u64 1]) (t := 22) (fr := (0, 0)) (heap_alloc_new w2 _)) (by simp [Value.oneCell'])
                (by omega) (by unfold maxLen; omega) (by omega) (by have := hb20.size; simp; omega) (w2.heap.size + 1) (by simp) ?_; intro gg c3 w3 hown3 hgrow3 hat3 hgl3; have hb30 : Below w1.heap.size w1 w3 := (hb20.alloc hb20.size _).grown hgrow3 (by have := hb20.size; simp; omega) (fun r hr => (hown2.lt r hr).1); have hN3 : Nums w3 (.slice (some ⟨gg, 0, none⟩) (q + 1) c3) (zs ++ [1]) := rdec_loc hown3 HZ64.out (by rw [HZL.out]; omega); have hP3 := HPR.out.below hb30)
            | (refine step_append_lies _ (by rfl) _ _ _ (by rfl) w1.heap.size 22 i0 _ 1 8 Try.underlying31 hi0 hz0 hz1 hz2 rfl (by omega) (.slice (some ⟨g2, 0, none⟩) q c2) q _ (by rfl) (own_zero hown2)
                ⟨w1.heap.size + 1, 0, none⟩ 1 1 [.int .u64 1] (by rfl) (by rfl) (World.news_of_block (cs := #[.int .u64 1]) (t := 22) (fr := (0, 0)) hx2) (by simp [Value.oneCell'])
                (by omega) (by unfold maxLen; omega) (by omega) hb20.size w2.heap.size (by simp) ?_; intro gg c3 w3 hown3 hgrow3 hat3 hgl3; have hb30 : Below w1.heap.size w1 w3 := hb20.grown hgrow3 hb20.size (fun r hr => (hown2.lt r hr).1); have hN3 : Nums w3 (.slice (some ⟨gg, 0, none⟩) (q + 1) c3) (zs ++ [1]) := rdec_loc hown3 HZ64.out (by rw [HZL.out]; omega); have hP3 := HPR.out.below hb30)
            | (refine step_append_lies _ (by rfl) _ _ _ (by rfl) w1.heap.size 22 i0 _ 1 8 Try.underlying31 hi0 hz0 hz1 hz2 rfl (by omega) (.slice (some ⟨g2, 0, none⟩) q c2) q _ (by rfl) (own_zero hown2)
                ⟨w1.heap.size, 0, none⟩ 1 1 [.int .u64 1] (by rfl) (by rfl) (World.news_of_block (cs := #[.int .u64 1]) (t := 22) (fr := (0, 0)) hx2') (by simp [Value.oneCell'])
                (by omega) (by unfold maxLen; omega) (by omega) hb20.size w2.heap.size (by simp) ?_; intro gg c3 w3 hown3 hgrow3 hat3 hgl3; have hb30 : Below w1.heap.size w1 w3 := hb20.grown hgrow3 hb20.size (fun r hr => (hown2.lt r hr).1); have hN3 : Nums w3 (.slice (some ⟨gg, 0, none⟩) (q + 1) c3) (zs ++ [1]) := rdec_loc hown3 HZ64.out (by rw [HZL.out]; omega); have hP3 := HPR.out.below hb30)
            | (go_simp; go_at_call 41; (with_reducible refine (HD.out _ _ _ hP3 hN3).mono ?_); rintro e w4 ⟨vq, vr, f, r, rfl, hf, hr, hdiv, hb4⟩))
          --PEEK
          all_goals
            have B4 := Lib.hid (bnext B1.out (bnext hb30 hb4))
            have HF := Lib.hid hf
            have V4 := Lib.hid (HV1.out.below (bnext hb30 hb4))
            have hgood := HDV.out f r hdiv
            obtain ⟨Af, cf, rfl⟩ := nums_slice' hf
            obtain ⟨Ar, cr, rfl⟩ := nums_slice' hr
            by_cases hr0 : r = []
            · subst hr0
              have HG := Lib.hid (hgood.1 rfl)
              have hfl := HG.out.len
              have hfl2 : ¬ ((d : Int) + 1 < (f.length : Nat)) := by omega
              have HOF := Lib.hid (roff_any p _ _ f xs ys w4 h3 hp HG.out.lt HOK.out.len HOK.out.wx HF.out V4.out)
              rw [HER.out] at HOF
              clear hgood hdiv hb4 hf hr hb30 hown3 hgrow3 hat3 hgl3 hN3 hP3 hb20 hown2 hgrow2 hat2 hgl2 hbw0 hbw2 ho1 ho2 hx1 hc1 hc2 hvl hv1 hbw3 ho3 hx3 hc3
              go_wp2_with (go_at_call 25; refine HOF.out.mono ?_; rintro e w5 ⟨u5, rfl, ho5, hb5⟩; obtain ⟨A5, c5, rfl⟩ := ints_slice (ints_of_owns ho5); have hol := HG.out.few; have B5 := Lib.hid (bnext B4.out hb5); have HF5 := Lib.hid (HF.out.below hb5); clear hb5 ho5)
              go_ret2
              exact ⟨B5.out, .inl ⟨f, _, HG.out, rfl, HF5.out⟩⟩
            · have HG := Lib.hid (hgood.2 hr0)
              have hrl : 0 < r.length := List.length_pos_iff.2 hr0
              clear hgood hdiv hb4 hf hr hb30 hown3 hgrow3 hat3 hgl3 hN3 hP3 hr0 hb20 hown2 hgrow2 hat2 hgl2 hbw0 hbw2 ho1 ho2 hx1 hc1 hc2 hvl hv1 hbw3 ho3 hx3 hc3
              go_wp2
              go_ret2
              exact ⟨B4.out, .inr ⟨HG.out, rfl⟩⟩
end Go.Proofs.Ytfgfapbhgehfiaa
