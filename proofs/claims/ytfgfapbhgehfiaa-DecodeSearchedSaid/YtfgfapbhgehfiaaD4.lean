/-
  Package decode: the equations.
-/
import Derived.Test.YtfgfapbhgehfiaaD3
import Derived.Test.YtfgfapbhgehfiaaDecS
import Derived.Outline
namespace Go.Proofs.Ytfgfapbhgehfiaa
open Go.RowKit
set_option linter.unusedVariables false
set_option maxRecDepth 100000

set_option maxHeartbeats 4000000 in
theorem equations_any (p d q : Nat) (v : Value) (xs ys : List Nat) (w : World) (hok : M.DOk p d xs ys) (hn : d + 1 + 2 * q ≤ xs.length) (hv : Pts w v xs ys) :
    Calls Try.prog 62 #[.int .u64 p, .int .i64 d, .int .i64 q, v] w fun e w' => ∃ v1 v2, e = .returned (.tuple #[v1, v2, .int .i64 0]) ∧ Mat w' v1 (M.bwL p d q xs ys) ∧ Nums w' v2 (M.bwR p q xs ys) ∧ Below w.heap.size w w' := by
  obtain ⟨hyl, hlen, hxu, hyu, A, cap, rfl, hcap, hC⟩ := hv
  have hud : ∀ b : Bool, undef ≠ Value.bool b := fun b h => by cases h
  obtain ⟨R, hR⟩ : ∃ R, xs.length = R := ⟨_, rfl⟩
  obtain ⟨h3, hp⟩ := M.pos_of hok.isp
  have hR64 : R ≤ 64 := hR ▸ hok.len
  have HOK := Lib.hid hok
  rw [hR] at hC hn hyl ⊢
  have HV := Lib.hid hC
  have HYL := Lib.hid hyl
  have HR := Lib.hid hR
  have HXU := Lib.hid hxu
  have HYU := Lib.hid hyu
  obtain ⟨n, en⟩ : ∃ n, n = d + 1 + q := ⟨_, rfl⟩
  have HEN := Lib.hid en
  have hn64 : n ≤ 64 := by omega
  have hqn : q < n := by omega
  have hnR : n + q ≤ R := by omega
  have hnn0 : (d : Int) + 1 + q = (n : Nat) := by omega
  have HNN := Lib.hid hnn0
  have HPO := Lib.hid fun (W : World) (u : Value) (hW : Nums W u xs) => pow_own p R n u xs W hW hok.isp hR (by omega) (by omega) hok.wx
  obtain ⟨cs, hmk, hmrow, hmsz⟩ := make_u64s R (by omega)
  have HMR := Lib.hid hmrow
  have HMK := Lib.hid hmk
  obtain ⟨g, eg⟩ : ∃ g, g = w.heap.size := ⟨_, rfl⟩
  obtain ⟨W0, eW0⟩ : ∃ W0, W0 = w.alloc (.cells cs 22) := ⟨_, rfl⟩
  have HR0 := Lib.hid (show Row W0 g R (fun i => if i < 0 then xs.getD i 0 else 0) by rw [eW0, eg]; exact (hmrow w).congr fun j _ => by rw [if_neg (by omega)])
  have HB0 := Lib.hid (show Below w.heap.size w W0 by rw [eW0]; exact balloc w _)
  have HG := Lib.hid (show w.heap.size ≤ g by omega)
  have EW0 := Lib.hid eW0
  have EG := Lib.hid eg
  clear hC hyl hxu hyu hok hR hmrow hmsz hlen hcap eW0 eg en hnn0
  go_enter Try.func62, Try.ntmps62
  go_wp2
  rw [← EW0.out]
  simp only [← EG.out]
  go_loopw [27] (fun t wr => ∃ k : Nat, k ≤ R ∧ t = .int .i64 k ∧ Row wr g R (fun i => if i < k then xs.getD i 0 else 0) ∧ Below w.heap.size w wr) (fun t _ => R - (intOf t).toNat)
  case atStart => exact ⟨0, by omega, rfl, HR0.out, HB0.out⟩
  case round =>
    obtain ⟨k, hk, rfl, hr, hB⟩ := hrel
    have HRW := Lib.hid hr
    have HB := Lib.hid hB
    clear hr hB HR0 HB0 hmk
    by_cases hlt : k < R
    · obtain ⟨b, off, rfl, hb, hcell⟩ := HV.out (by omega)
      have hc1 := (HB.out.cell (p := ⟨b, off + k * 2, none⟩) hb).trans (hcell k hlt).1
      have hc2 := (HB.out.cell (p := ⟨b, off + k * 2 + 1, none⟩) hb).trans (hcell k hlt).2
      have hb1 : wr.heap.size ≠ b := by have := HB.out.size; omega
      have hgl := HRW.out.lt
      have hg1 : wr.heap.size ≠ g := by omega
      have hg2 : g ≠ wr.heap.size := by omega
      have hcg := HRW.out.cell hlt
      have hfg := HRW.out.free k
      have hs2 := ((HRW.out.set hlt (xs.getD k 0)).congr (F' := fun i => if i < k + 1 then xs.getD i 0 else 0) (fun i hi => by
        by_cases e : i = k
        · subst e; rw [if_pos rfl, if_pos (by omega)]
        · rw [if_neg e]
          by_cases e2 : i < k
          · rw [if_pos e2, if_pos (by omega)]
          · rw [if_neg e2, if_neg (by omega)])).alloc (.cells #[.int .u64 (xs.getD k 0 : Nat), .int .u64 (ys.getD k 0 : Nat)] 64)
      obtain ⟨x, hx⟩ : ∃ x, x = xs.getD k 0 := ⟨_, rfl⟩
      obtain ⟨y, hy⟩ : ∃ y, y = ys.getD k 0 := ⟨_, rfl⟩
      rw [← hx] at hc1 hs2
      rw [← hy] at hc2 hs2
      have HS2 := Lib.hid hs2
      have hHG := HG.out
      clear hx hy hcell hs2
      go_wp2
      go_roundw
      case rel => exact ⟨k + 1, by omega, by go_num, HS2.out, (HB.out.setCell (p := ⟨g, k, none⟩) hHG _).alloc (by have := HB.out.size; simp; omega) _⟩
      case measure => simp [intOf]; omega
    · obtain rfl : R = k := by omega
      have hnum := HRW.out.nums (n := R) (cap := R) (Nat.le_refl _) (Nat.le_refl _) (by omega) (fun j hj => by rw [if_pos hj]; exact HXU.out _ (M.getD_mem (by rw [HR.out]; exact hj)))
      rw [show M.tabM R (fun i => if i < R then xs.getD i 0 else 0) = xs by
        refine M.ext_getD (by rw [M.tabM_len, HR.out]) fun i => ?_
        rw [M.tabM_get]
        by_cases hi : i < R
        · rw [if_pos hi, if_pos hi]
        · rw [if_neg hi, M.getD_ge (by rw [HR.out]; omega)]] at hnum
      have HP := Lib.hid (HPO.out wr _ hnum)
      have hmk := HMK.out
      clear hnum
      have hnn := HNN.out
      go_wp2_with fail
      refine HP.out.mono ?_
      rintro e w2 ⟨B, G, rfl, hm, hb⟩
      have HM := Lib.hid hm
      have HB2 := Lib.hid (bnext HB.out hb)
      obtain ⟨gr, egr⟩ : ∃ g, g = w2.heap.size := ⟨_, rfl⟩
      obtain ⟨W2, eW2⟩ : ∃ W, W = w2.alloc (.cells cs 22) := ⟨_, rfl⟩
      have HR2 := Lib.hid (show Row W2 gr R (fun i => if i < 0 then (M.bwR p q xs ys).getD i 0 else 0) by rw [eW2, egr]; exact (HMR.out w2).congr fun j _ => by rw [if_neg (by omega)])
      have HB3 := Lib.hid (show Below w.heap.size w W2 by rw [eW2]; exact HB2.out.alloc HB2.out.size _)
      have HM3 := Lib.hid (show EqM W2 wr.heap.size B R (fun i => n) G (fun _ => n) (M.pwF p xs) by rw [eW2]; exact hm.below (balloc w2 _))
      have HGR := Lib.hid (show w2.heap.size ≤ gr by omega)
      have EW2 := Lib.hid eW2
      have EGR := Lib.hid egr
      clear hm hb eW2 egr
      go_wp2
      rw [← EW2.out]
      simp only [← EGR.out]
      have hpwF : ∀ i, i < R → ∀ j, j < n → M.pwF p xs i j = M.bwF p d q xs ys i j := fun i hi j hj => by
        unfold M.bwF M.pwF
        rw [if_pos (by have := HEN.out; omega)]
      have HM4 := Lib.hid (HM3.out.congr hpwF)
      obtain ⟨base, eb⟩ : ∃ b, b = w.heap.size := ⟨_, rfl⟩
      have HM5 := Lib.hid (show EqM W2 base B R (fun i => if i < 0 then n + q else n) G (fun _ => n) (M.bwF p d q xs ys) from (HM4.out.base (by have := HB.out.size; omega)).len fun i _ => by rw [if_neg (by omega)])
      have HNE := Lib.hid (show ∀ i, i < R → G i ≠ gr from fun i hi => by have := HM.out.ltG hi; have := HGR.out; omega)
      have HNB := Lib.hid (show B ≠ gr by have := HM.out.lt; have := HGR.out; omega)
      have HBG := Lib.hid (show base ≤ gr by have := HB2.out.size; have := HGR.out; omega)
      rw [← eb] at HB3
      have HEB := Lib.hid eb
      clear HM3 HM4 hpwF HM HB2 HGR EW2 EGR HRW HB eb hmk
      go_loopw [56] (fun t wx => ∃ (k : Nat) (G Cp : Nat → Nat), k ≤ R ∧ t = .int .i64 k ∧ EqM wx base B R (fun i => if i < k then n + q else n) G Cp (M.bwF p d q xs ys) ∧ Row wx gr R (fun i => if i < k then (M.bwR p q xs ys).getD i 0 else 0) ∧ (∀ i, i < R → G i ≠ gr) ∧ Below base w wx) (fun t _ => R - (intOf t).toNat)
      case atStart => exact ⟨0, _, _, by omega, rfl, HM5.out, HR2.out, HNE.out, HB3.out⟩
      case round =>
        clear HM5 HNE HR2 HB3
        obtain ⟨k, G, Cp, hk, rfl, hm, hr, hne, hB⟩ := hrel
        have HM := Lib.hid hm
        have HRW := Lib.hid hr
        have HNE := Lib.hid hne
        have HB := Lib.hid hB
        clear hm hr hne hB
        by_cases hlt : k < R
        · obtain ⟨b, off, rfl, hb, hcell⟩ := HV.out (by omega)
          have hbs := HB.out.size
          have hEB := HEB.out
          have hc1 := (HB.out.cell (p := ⟨b, off + k * 2, none⟩) (by show b < base; omega)).trans (hcell k hlt).1
          have hc2 := (HB.out.cell (p := ⟨b, off + k * 2 + 1, none⟩) (by show b < base; omega)).trans (hcell k hlt).2
          have hb1 : wr.heap.size ≠ b := by omega
          have hcB := HM.out.cell hlt
          rw [if_neg (by omega)] at hcB
          have hBl := HM.out.lt
          have hB1 : wr.heap.size ≠ B := by omega
          have hB2 : B ≠ wr.heap.size := by omega
          obtain ⟨g0, eg0⟩ : ∃ g, g = G k := ⟨_, rfl⟩
          obtain ⟨c0, ec0⟩ : ∃ c, c = Cp k := ⟨_, rfl⟩
          have hcp := own_cap (HM.out.row k hlt)
          rw [if_neg (by omega)] at hcp
          rw [← ec0] at hcp
          rw [← eg0, ← ec0] at hcB
          obtain ⟨x, hx⟩ : ∃ x, x = xs.getD k 0 := ⟨_, rfl⟩
          obtain ⟨y, hy⟩ : ∃ y, y = ys.getD k 0 := ⟨_, rfl⟩
          rw [← hx] at hc1
          rw [← hy] at hc2
          have HX := Lib.hid hx
          have HY := Lib.hid hy
          have HG0 := Lib.hid eg0
          obtain ⟨bp, ebp⟩ : ∃ b, b = wr.heap.size := ⟨_, rfl⟩
          have hq0 : q ≤ c0 := by omega
          have HB4 := Lib.hid (HB.out.alloc (by omega) (.cells #[.int .u64 (x : Nat), .int .u64 (y : Nat)] 64))
          have HM6 := Lib.hid (HM.out.below (balloc wr (.cells #[.int .u64 (x : Nat), .int .u64 (y : Nat)] 64)))
          have hL0 : ∀ i, (if i < k then n + q else n) = if i < k then n + q else if i = k then n + 0 else n := fun i => by
            by_cases e : i = k
            · rw [if_neg (by omega), if_neg (by omega), if_pos e]; rfl
            · rw [if_neg e]
          have hg0c : ∀ i, i < n → (wr.alloc (.cells #[.int .u64 (x : Nat), .int .u64 (y : Nat)] 64)).cell? ⟨g0, i, none⟩ = some (.int .u64 (M.pw p x i : Nat)) := fun i hi => by
            have h := HM6.out.at_ hlt (j := i) (by rw [if_neg (by omega)]; exact hi)
            rw [← eg0] at h
            rw [h]
            unfold M.bwF
            rw [if_pos (by have := HEN.out; omega), hx]
          have HI0 := Lib.hid (show EqM (wr.alloc (.cells #[.int .u64 (x : Nat), .int .u64 (y : Nat)] 64)) base B R (fun i => if i < k then n + q else if i = k then n + 0 else n) G Cp (M.bwF p d q xs ys) from HM6.out.len fun i _ => hL0 i)
          have HI1 := Lib.hid (HRW.out.alloc (.cells #[.int .u64 (x : Nat), .int .u64 (y : Nat)] 64))
          have HI2 := Lib.hid (show ∀ i, i < R → G i ≠ bp from fun i hi => by have := HM.out.ltG hi; omega)
          have HI3 := Lib.hid hg0c
          have HI4 := Lib.hid (show (wr.alloc (.cells #[.int .u64 (x : Nat), .int .u64 (y : Nat)] 64)).cell? ⟨bp, 1, none⟩ = some (.int .u64 (y : Nat)) by rw [ebp]; simp)
          have HI5 := Lib.hid (show bp < (wr.alloc (.cells #[.int .u64 (x : Nat), .int .u64 (y : Nat)] 64)).heap.size by rw [ebp]; simp)
          have HI6 := Lib.hid (show B ≠ bp ∧ gr ≠ bp by have := HRW.out.lt; have := HM.out.lt; omega)
          have HI7 := Lib.hid (show g0 ≠ B ∧ g0 < bp by rw [eg0]; exact ⟨HM.out.ne hlt, by have := HM.out.ltG hlt; omega⟩)
          clear hx hy hcell hbs hEB eg0 ec0 hL0 hg0c HM6 HM
          go_wp2
          simp only [← ebp]
          clear ebp hcB hB1 hB2 hBl
          go_loopw [69] (fun t wi => ∃ (j : Nat) (G Cp : Nat → Nat), j ≤ q ∧ t = .int .i64 j ∧ EqM wi base B R (fun i => if i < k then n + q else if i = k then n + j else n) G Cp (M.bwF p d q xs ys) ∧ Row wi gr R (fun i => if i < k then (M.bwR p q xs ys).getD i 0 else 0) ∧ (∀ i, i < R → G i ≠ gr) ∧ (∀ i, i < R → G i ≠ bp) ∧ (∀ i, i < n → wi.cell? ⟨g0, i, none⟩ = some (.int .u64 (M.pw p x i : Nat))) ∧ wi.cell? ⟨bp, 1, none⟩ = some (.int .u64 (y : Nat)) ∧ bp < wi.heap.size ∧ Below base w wi) (fun t _ => q - (intOf t).toNat)
          case atStart => exact ⟨0, _, _, by omega, rfl, HI0.out, HI1.out, HNE.out, HI2.out, HI3.out, HI4.out, HI5.out, HB4.out⟩
          case round =>
            clear HI0 HI1 HI2 HI3 HI4 HI5 HB4 HNE
            obtain ⟨j, G, Cp, hj, rfl, hm, hr, hne, hnb, hgc, hy1, hbl, hB⟩ := hrel
            have HM := Lib.hid hm
            have HRW := Lib.hid hr
            have HNE := Lib.hid hne
            have HNP := Lib.hid hnb
            have HGC := Lib.hid hgc
            have HY1 := Lib.hid hy1
            have HB := Lib.hid hB
            clear hm hr hne hnb hgc hy1 hB
            by_cases hjq : j < q
            · have hyp : y < p := by rw [HY.out]; exact M.within_mem HOK.out.wy (by rw [HYL.out]; exact hlt)
              have hgj := HGC.out j (by omega)
              have hzl := M.pw_lt (p := p) x j (by omega)
              have hval : M.bwF p d q xs ys k (n + j) = (p - y) * M.pw p x j % p := by
                unfold M.bwF
                rw [if_neg (by have := HEN.out; omega), ← HY.out, ← HX.out, show n + j - (d + 1 + q) = j by have := HEN.out; omega]
              obtain ⟨z, ez⟩ : ∃ z, z = M.pw p x j := ⟨_, rfl⟩
              rw [← ez] at hgj hzl hval
              obtain ⟨u, eu⟩ : ∃ u, u = (p - y) * z % p := ⟨_, rfl⟩
              rw [← eu] at hval
              have m1 : (p - y) * z ≤ 65537 * 65537 := Nat.mul_le_mul (by omega) (by omega)
              have e1 : (IntKind.u64.wrap (IntKind.u64.wrap ((p : Int) - y) * z)).tmod p = (u : Nat) := by
                have a1 : IntKind.u64.wrap ((p : Int) - y) = ((p - y : Nat) : Int) := by rw [IntKind.wrap_u64]; omega
                have a2 : IntKind.u64.wrap (((p - y : Nat) : Int) * z) = (((p - y) * z : Nat) : Int) := by
                  rw [← Int.natCast_mul, IntKind.wrap_u64]; omega
                rw [a1, a2, eu]
                rfl
              have hp0 : ¬ p = 0 := by omega
              have HVAL := Lib.hid hval
              have hy1 := HY1.out
              have hcB := HM.out.cell hlt
              rw [if_neg (by omega), if_pos rfl] at hcB
              have hBl := HM.out.lt
              have hne1 : B ≠ wr.heap.size := by omega
              have hne2 : wr.heap.size ≠ B := by omega
              have hne3 : bp ≠ wr.heap.size := by omega
              have hne4 : wr.heap.size ≠ bp := by omega
              have hbs : base ≤ wr.heap.size := (by have := HB.out.size; have := HEB.out; omega)
              obtain ⟨L, eL⟩ : ∃ L : Nat → Nat, L = fun i => if i < k then n + q else if i = k then n + j else n := ⟨_, rfl⟩
              have hLk : L k = n + j := by rw [eL]; simp
              have HA := Lib.hid (show EqM (wr.alloc (.cells #[.int .u64 (u : Nat)] 22)).drew base B R L G Cp (M.bwF p d q xs ys) by rw [eL]; exact (HM.out.below (balloc wr (.cells #[.int .u64 (u : Nat)] 22))).same fun _ _ _ => rfl)
              have HLK := Lib.hid hLk
              have HEL := Lib.hid eL
              have hfB := HA.out.free k
              have hown := HA.out.row k hlt
              rw [hLk] at hown
              obtain ⟨g1, eg1⟩ : ∃ g, g = G k := ⟨_, rfl⟩
              obtain ⟨c1, ec1⟩ : ∃ c, c = Cp k := ⟨_, rfl⟩
              rw [← eg1, ← ec1] at hown hcB
              have HG1 := Lib.hid eg1
              have HC1 := Lib.hid ec1
              have HOWN := Lib.hid (show (wr.alloc (.cells #[.int .u64 (u : Nat)] 22)).drew.ownsRow base 22 1 (.slice (some ⟨g1, 0, none⟩) (n + j) c1) (n + j) (vals (M.tabM (n + j) (M.bwF p d q xs ys k))) from hown)
              have HFB := Lib.hid hfB
              obtain ⟨i0, hi0, hz0, hz1, hz2⟩ := info_parts infoU64
              clear ez eu hval eg1 ec1 hown hfB eL hLk
              go_wp2
              go_region_law (refine step_append_kept _ (by rfl) _ _ _ (by rfl) base 22 i0 (.int .u64 0) 1 8 Try.underlying31 hi0 hz0 hz1 hz2 rfl (by omega) g1 (n + j) c1 _ (by rfl) HOWN.out ⟨wr.heap.size, 0, none⟩ 1 1 [.int .u64 (u : Nat)] (by rfl) (by rfl) (World.news_of_block (cs := #[.int .u64 (u : Nat)]) (t := 22) (fr := (0, 0)) (heap_alloc_new wr _)) (by simp [Value.oneCell']) (by omega) (by unfold maxLen; omega) (by omega) (by simp; omega) (wr.heap.size + 1) (by simp) ?_; intro g2 c2 w8 hown8 hgrow8 hat8 hgl8 hk8; have fr8 : w8.frozen? ⟨B, k, none⟩ = false := (World.grownBy.frozen_far hgrow8 ⟨B, k, none⟩ (by simp; omega) (by rw [HG1.out]; simp; exact fun e => HA.out.ne hlt e.symm)).trans HFB.out; have cl8 : w8.cell? ⟨B, k, none⟩ = some (.slice (some ⟨g1, 0, none⟩) (n + j) c1) := (World.grownBy.cell_far hgrow8 ⟨B, k, none⟩ (by simp; omega) (by rw [HG1.out]; simp; exact fun e => HA.out.ne hlt e.symm)).trans (by rw [← HLK.out, HG1.out, HC1.out]; exact HA.out.cell hlt))
              all_goals
                have hgr : (wr.alloc (.cells #[.int .u64 (u : Nat)] 22)).drew.grownBy w8 (some (G k)) := by rw [← HG1.out]; exact hgrow8
                have hpu := HA.out.push hlt (g := g2) (cap := c2) hgr (by rw [← HG1.out]; rcases hat8 with h | h; exact .inl h; right; rw [h]; simp) (by rw [HLK.out, HVAL.out]; exact hown8)
                rw [HLK.out] at hpu
                have hg2 : ∀ X, X < wr.heap.size → (∀ i, i < R → G i ≠ X) → ∀ i, i < R → (if i = k then g2 else G i) ≠ X := fun X hX hG i hi => by
                  by_cases e : i = k
                  · rw [if_pos e]
                    rcases hat8 with h | h
                    · rw [← h, HG1.out]; exact hG k hlt
                    · omega
                  · rw [if_neg e]; exact hG i hi
                have hrl := HRW.out.lt
                have HP0 := Lib.hid (hpu.len (L' := fun i => if i < k then n + q else if i = k then n + (j + 1) else n) (fun i hi => by
                  by_cases e : i = k
                  · rw [if_pos e, if_neg (by omega), if_pos e]; rfl
                  · rw [if_neg e, HEL.out]
                    dsimp only
                    rw [if_neg e, if_neg e]))
                have HP1 := Lib.hid (((show Row (wr.alloc (.cells #[.int .u64 (u : Nat)] 22)).drew gr R _ from HRW.out.alloc _).grown hgrow8 (by rw [HG1.out]; simp; exact fun e => HNE.out k hlt e.symm)).other (p := ⟨B, k, none⟩) (fun e => HNB.out e.symm) (.slice (some ⟨g2, 0, none⟩) (n + j + 1) c2))
                have HP2 := Lib.hid (hg2 gr hrl HNE.out)
                have HP3 := Lib.hid (hg2 bp hbl HNP.out)
                have HP4 : Hid (∀ i, i < n → (w8.setCell ⟨B, k, none⟩ (.slice (some ⟨g2, 0, none⟩) (n + j + 1) c2)).cell? ⟨g0, i, none⟩ = some (.int .u64 (M.pw p x i : Nat))) := Lib.hid fun i hi => by
                  rw [World.cell?_setCell_other _ (a := ⟨B, k, none⟩) (b := ⟨g0, i, none⟩) _ (fun e => HI7.out.1 (congrArg Addr.block e).symm)]
                  by_cases e : g0 = g1
                  · rw [e]
                    refine (hk8 i (.int .u64 (M.bwF p d q xs ys k i : Nat)) (by simp [vals, M.tabM, show i < n + j by omega])).trans ?_
                    unfold M.bwF
                    rw [if_pos (by have := HEN.out; omega), ← HX.out]
                  · refine (World.grownBy.cell_far hgrow8 ⟨g0, i, none⟩ (by have := HI7.out.2; simp; omega) (by simpa using e)).trans ?_
                    exact ((balloc wr (.cells #[.int .u64 (u : Nat)] 22)).cell (p := ⟨g0, i, none⟩) (by have := HI7.out.2; show g0 < wr.heap.size; omega)).trans (HGC.out i hi)
                have HP5 := Lib.hid (show (w8.setCell ⟨B, k, none⟩ (.slice (some ⟨g2, 0, none⟩) (n + j + 1) c2)).cell? ⟨bp, 1, none⟩ = some (.int .u64 (y : Nat)) by
                  rw [World.cell?_setCell_other _ (a := ⟨B, k, none⟩) (b := ⟨bp, 1, none⟩) _ (fun e => HI6.out.1 (congrArg Addr.block e))]
                  refine (World.grownBy.cell_far hgrow8 ⟨bp, 1, none⟩ (by simp; omega) (by rw [HG1.out]; simp; exact fun e => HNP.out k hlt e.symm)).trans ?_
                  exact ((balloc wr (.cells #[.int .u64 (u : Nat)] 22)).cell (p := ⟨bp, 1, none⟩) hbl).trans HY1.out)
                have HP6 := Lib.hid ((((HB.out.alloc (by have := HEB.out; omega) (.cells #[.int .u64 (u : Nat)] 22)).drew).grown hgrow8 (by simp; omega) (fun r hr => by injection hr with hr; rw [← hr]; exact own_at HOWN.out)).setCell (p := ⟨B, k, none⟩) HA.out.baseB (.slice (some ⟨g2, 0, none⟩) (n + j + 1) c2))
                have hs8 := hgrow8.size
                have HP7 := Lib.hid (show bp < (w8.setCell ⟨B, k, none⟩ (.slice (some ⟨g2, 0, none⟩) (n + j + 1) c2)).heap.size by simp at hs8 ⊢; omega)
                clear hown8 hgrow8 hgr hpu hat8 hk8 hg2 hgl8 fr8 hs8 cl8
                go_wp2_with fail
                go_roundw
                case rel => exact ⟨j + 1, _, _, by omega, by go_num, HP0.out, HP1.out, HP2.out, HP3.out, HP4.out, HP5.out, HP7.out, HP6.out⟩
                case measure => simp [intOf]; omega
            · obtain rfl : q = j := by omega
              have hyp : y < p := by rw [HY.out]; exact M.within_mem HOK.out.wy (by rw [HYL.out]; exact hlt)
              have hgq := HGC.out q hqn
              have hzl := M.pw_lt (p := p) x q (by omega)
              have hval : (M.bwR p q xs ys).getD k 0 = y * M.pw p x q % p := by
                unfold M.bwR
                rw [M.tabM_get, if_pos (by rw [HR.out]; exact hlt), ← HX.out, ← HY.out]
              obtain ⟨z, ez⟩ : ∃ z, z = M.pw p x q := ⟨_, rfl⟩
              rw [← ez] at hgq hzl hval
              obtain ⟨u, eu⟩ : ∃ u, u = y * z % p := ⟨_, rfl⟩
              rw [← eu] at hval
              have m1 : y * z ≤ 65537 * 65537 := Nat.mul_le_mul (by omega) (by omega)
              have e1 : (IntKind.u64.wrap ((y : Int) * z)).tmod p = (u : Nat) := by
                have a2 : IntKind.u64.wrap ((y : Int) * z) = ((y * z : Nat) : Int) := by
                  rw [← Int.natCast_mul, IntKind.wrap_u64]; omega
                rw [a2, eu]
                rfl
              have e2 : (y : Int) * z % p = (u : Nat) := by rw [eu, Int.natCast_emod, Int.natCast_mul]
              have hp0 : ¬ p = 0 := by omega
              have hy1 := HY1.out
              have hcg := HRW.out.cell hlt
              have hfg := HRW.out.free k
              have HS := Lib.hid ((HRW.out.set hlt u).congr (F' := fun i => if i < k + 1 then (M.bwR p q xs ys).getD i 0 else 0) (fun i hi => by
                by_cases e : i = k
                · subst e; rw [if_pos rfl, if_pos (by omega), hval]
                · rw [if_neg e]
                  by_cases e2 : i < k
                  · rw [if_pos e2, if_pos (by omega)]
                  · rw [if_neg e2, if_neg (by omega)]))
              have HM9 := Lib.hid ((HM.out.other (a := ⟨gr, k, none⟩) HNB.out HNE.out (.int .u64 (u : Nat))).len (L' := fun i => if i < k + 1 then n + q else n) (fun i hi => by
                by_cases e : i = k
                · rw [if_neg (by omega), if_pos e, if_pos (by omega)]
                · rw [if_neg e]
                  by_cases e2 : i < k
                  · rw [if_pos e2, if_pos (by omega)]
                  · rw [if_neg e2, if_neg (by omega)]))
              clear ez eu hval
              --PEEK
              go_wp2
              go_region
              go_wp2_with fail
              go_roundw
              case rel => exact ⟨k + 1, _, _, by omega, by go_num, HM9.out.same (fun _ _ _ => rfl), HS.out, HNE.out, (HB.out.setCell (p := ⟨gr, k, none⟩) HBG.out _).drew⟩
              case measure => simp [intOf]; omega
        · obtain rfl : R = k := by omega
          have hp1 : 0 < p := by omega
          have HMat := Lib.hid (HM.out.mat (Nat.le_refl R) (by omega) (K := n + q) (fun i hi => by rw [if_pos hi]) (by omega) (fun i hi j hj => by have := M.bwF_lt (d := d) (w := q) hp1 xs ys i j; omega))
          have HNum := Lib.hid (HRW.out.nums (n := R) (cap := R) (Nat.le_refl _) (Nat.le_refl _) (by omega) (fun j hj => by rw [if_pos hj]; have := M.within_mem (M.bwR_lt hp1 q xs ys) (k := j) (by rw [M.bwR_len, HR.out]; exact hj); omega))
          go_wp2
          go_ret3
          refine ⟨_, _, rfl, ?_, ?_, ?_⟩
          · have h := HMat.out
            unfold M.bwL
            rw [HR.out, show d + 1 + 2 * q = n + q by have := HEN.out; omega]
            exact h
          · have h := HNum.out
            rw [show M.tabM R (fun i => if i < R then (M.bwR p q xs ys).getD i 0 else 0) = M.bwR p q xs ys by
              refine M.ext_getD (by rw [M.tabM_len, M.bwR_len, HR.out]) fun i => ?_
              rw [M.tabM_get]
              by_cases hi : i < R
              · rw [if_pos hi, if_pos hi]
              · rw [if_neg hi, M.getD_ge (by rw [M.bwR_len, HR.out]; omega)]] at h
            exact h
          · rw [← HEB.out]; exact HB.out
end Go.Proofs.Ytfgfapbhgehfiaa
