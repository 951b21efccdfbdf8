/-
  App2, Ref2a, Ref2b, Snoc (joined).
-/
import Derived.Test.YtfkepkdfpjaniaaLD
import Derived.Test.YtfkepkdfpjaniaaLF
import Derived.Test.YtfkepkdfpjaniaaMA
import Derived.Laws.AppendOwnNone
import Derived.StillTailTactics
namespace Go.Proofs.Ytfkepkdfpjaniaa
open Go.RowKit
set_option linter.unusedVariables false

theorem wpList_append_nums {w : World} {ops : Array Oper} {rest : List Oper} {o : Oper} {a : Act} {Q : Exit → Act → World → Prop} (hgd : Region.wanted o (yielded ops a.tmps) = true) (s x : Operand)
    (ho : o.op = .call { callee := .builtin .append, args := #[s, x], argTypes := #[31, 31] }) (base : Nat) (v : Value) (n : Nat) (xs : List Value) (hs : a.eval s = v) (hown : w.ownsRow base 22 1 v n xs)
    (vx : Value) (zs : List Nat) (hx : a.eval x = vx) (hN : Nums w vx zs) (hle : n + zs.length ≤ 17592186043904) (hbase : base ≤ w.heap.size)
    (h : ∀ v' w', w'.ownsRow base 22 1 v' (n + zs.length) (xs ++ vals zs) → Below base w w' → wpList Try.prog ops Q rest (a.put o.dst v') w') : wpList Try.prog ops Q (o :: rest) a w := by
  obtain ⟨i0, hi0, hz0, hz1, hz2⟩ := info_parts infoU64
  have hlt := hown.lt
  unfold wpList
  rw [if_pos hgd]
  refine .inl ?_
  obtain ⟨h1, h2, h3⟩ := hN
  have go : ∀ (ad : Addr) (c : Nat), vx = .slice (some ad) zs.length c → (∀ j u, (vals zs)[j]? = some u → w.cell? (ad.add j) = some u) → o.wp Try.prog a w (wpList Try.prog ops Q rest) Q := by
    intro ad c hv hc
    refine wp_append_own w s x 31 ho base 22 i0 (.int .u64 0) 1 8 Try.underlying31 hi0 hz0 hz1 hz2 rfl (by decide) v n xs hs hown ad zs.length c (vals zs) (hx.trans hv) (by simp [vals]) hc ?_ ?_ ?_ hbase ?_
    · intro u hu; unfold vals at hu; obtain ⟨z, _, rfl⟩ := List.mem_map.1 hu; rfl
    · unfold maxLen; omega
    · omega
    · intro v' w' hown' hgrow _
      exact h v' w' hown' ((Below.refl _ _).grown hgrow hbase (fun k hk => (hlt k hk).1))
  rcases h3 with ⟨ad, cap, rfl, rfl, hnn⟩ | ⟨b, off, cap, rfl, hc, hb, hcell⟩
  · cases ad with
    | none =>
      obtain rfl := hnn rfl
      have hrun := run_append_owned_none (P := Try.prog) (w := w) base 31 o.type 22 i0 1 Try.underlying31 hi0 v n xs hown
      unfold Oper.wp
      simp [execOp, ho, resolve, invoke, builtin, hs, hx, hrun, Result.andThen]
      exact h v w (by simpa [vals] using hown) (Below.refl _ _)
    | some x => exact go x cap rfl (fun j u hu => by simp [vals] at hu)
  · refine go _ cap rfl (fun j u hu => ?_)
    have hj : j < zs.length := by
      apply Nat.lt_of_not_le; intro hc
      rw [List.getElem?_eq_none (by simp [vals]; omega)] at hu; cases hu
    rw [Addr.add_lit, hcell j hj]
    simp [vals, List.getD_eq_getElem?_getD, hj] at hu ⊢
    exact hu

end Go.Proofs.Ytfkepkdfpjaniaa
namespace Go.Proofs.Ytfkepkdfpjaniaa
open Go.RowKit
set_option linter.unusedVariables false

theorem nums_prefix0 {w : World} {A : Option Addr} {cap : Nat} {zs : List Nat} (h : Nums w (.slice A zs.length cap) zs) : Nums w (.slice A 0 cap) [] := by have := nums_prefix h (m := 0) (Nat.zero_le _); simpa using this

set_option maxHeartbeats 1000000 in
theorem rtrim_any (v : Value) (zs : List Nat) (w : World) (hv : Nums w v zs) :
    Calls Try.prog 43 #[v] w (Gives w (M.trim zs)) := by
  have HN := Lib.hid hv
  obtain ⟨A, cap, rfl, hcap, hlen, hC⟩ := nums_view hv
  have HV := Lib.hid hC
  have hud : ∀ b : Bool, undef ≠ Value.bool b := fun b h => by cases h
  clear hv hC
  go_enter Try.func43, Try.ntmps43
  go_wp2_with fail
  go_loop [3] (fun t => ∃ n : Nat, n ≤ zs.length ∧ t = .int .i64 n ∧ ∀ i, n ≤ i → zs.getD i 0 = 0) (fun t => (intOf t).toNat)
  case atStart => exact ⟨zs.length, Nat.le_refl _, rfl, fun i hi => M.getD_ge hi⟩
  case round =>
    obtain ⟨n, hn, rfl, hz⟩ := hrel
    have HZ := Lib.hid hz
    clear hz
    by_cases h0 : n = 0
    · subst h0
      have ht : M.trim zs = [] := M.trim_nil_iff.2 (fun i => HZ.out i (Nat.zero_le _))
      have HT := Lib.hid ht
      have hp0 := nums_prefix0 HN.out
      have HP := Lib.hid hp0
      clear ht hp0
      go_wp2_with (at_builtin; refine wpList_append_nums rfl (.tmp 18) (.tmp 21) rfl w.heap.size _ 0 [] rfl (World.ownsRow_made w #[] 0 (Nat.le_refl _) (by decide) rfl) _ [] rfl (HP.out.below (balloc w _)) (by simp) (by simp) ?_; intro v' w' hown hb; have HO := Lib.hid hown; have HBB := Lib.hid hb; clear hown hb)
      go_ret
      refine ⟨_, rfl, ?_, (balloc w _).trans HBB.out⟩
      rw [HT.out]
      exact nums_of_owns (zs := []) HO.out (by simp) (by simp)
    · obtain ⟨m, rfl⟩ : ∃ m, n = m + 1 := ⟨n - 1, by omega⟩
      obtain ⟨b, off, rfl, hb, hcell⟩ := HV.out (by omega)
      have hc := hcell m (by omega)
      obtain ⟨x, hx⟩ : ∃ x, x = zs.getD m 0 := ⟨_, rfl⟩
      rw [← hx] at hc
      have HX := Lib.hid hx
      clear hx hcell h0
      by_cases hx0 : x = 0
      · have hbq : ((x : Int) == 0) = true := by rw [beq_iff_eq]; omega
        have H0 := Lib.hid hx0
        clear hx0
        go_wp2_with fail
        go_round
        case rel =>
          refine ⟨m, by omega, by go_num, fun i hi => ?_⟩
          by_cases he : i = m
          · subst he; rw [← HX.out]; exact H0.out
          · exact HZ.out i (by omega)
        case measure => simp [intOf]
      · have hbq : ((x : Int) == 0) = false := by rw [beq_eq_false_iff_ne]; omega
        have ht : M.tlen zs = m + 1 := M.tlen_unique (fun i hi => HZ.out i hi) (.inr (by rw [Nat.add_sub_cancel, ← HX.out]; exact hx0))
        have HT := Lib.hid ht
        have hpp := nums_prefix HN.out (m := m + 1) hn
        have HP := Lib.hid hpp
        have hll : (zs.take (m + 1)).length = m + 1 := by rw [List.length_take]; omega
        have HLL := Lib.hid hll
        have hu : ∀ y ∈ zs.take (m + 1), y < 18446744073709551616 := fun y hy => HN.out.1 y (List.mem_of_mem_take hy)
        have HU := Lib.hid hu
        clear ht hpp hx0 hll hu
        go_wp2_with (at_builtin; refine wpList_append_nums rfl (.tmp 18) (.tmp 21) rfl w.heap.size _ 0 [] rfl (World.ownsRow_made w #[] 0 (Nat.le_refl _) (by decide) rfl) _ (zs.take (m + 1)) rfl (HP.out.below (balloc w _)) (by rw [HLL.out]; omega) (by simp) ?_; intro v' w' hown hb; have HO := Lib.hid hown; have HBB := Lib.hid hb; clear hown hb)
        go_ret
        refine ⟨_, rfl, ?_, (balloc w _).trans HBB.out⟩
        unfold M.trim
        rw [HT.out]
        exact nums_of_owns HO.out HU.out (by rw [HLL.out]; omega)

set_option maxHeartbeats 400000 in
theorem rat_any (v : Value) (zs : List Nat) (i : Nat) (w : World) (hi : i ≤ 4294967296) (hv : Nums w v zs) :
    Calls Try.prog 72 #[v, .int .i64 i] w fun e w' => e = .returned (.int .u64 (zs.getD i 0 : Nat)) ∧ w = w' := by
  obtain ⟨A, cap, rfl, hcap, hlen, hC⟩ := nums_view hv
  clear hv hcap
  by_cases hlt : i < zs.length
  · obtain ⟨b, off, rfl, hb, hcell⟩ := hC (by omega)
    have hc := hcell i hlt
    obtain ⟨x, hx⟩ : ∃ x, x = zs.getD i 0 := ⟨_, rfl⟩
    rw [← hx] at hc ⊢
    clear hx hcell hC
    go_enter Try.func72, Try.ntmps72
    go_wp2
    go_ret
    exact ⟨rfl, rfl⟩
  · rw [M.getD_ge (by omega)]
    clear hC
    go_enter Try.func72, Try.ntmps72
    go_wp2
    go_ret
    exact ⟨rfl, rfl⟩

namespace M
theorem evTake {p x : Nat} {f : List Nat} {k : Nat} (h : k < f.length) : (evN x (f.take k) % p + f.getD k 0 * (x ^ k % p) % p) % p = evN x (f.take (k + 1)) % p := by
  rw [take_snoc h, evN_snoc]
  have hl : (f.take k).length = k := by rw [List.length_take]; omega
  rw [hl, Nat.mul_comm (x ^ k), Nat.add_mod (evN x (f.take k)), Nat.mul_mod (f.getD k 0) (x ^ k % p), Nat.mod_mod, ← Nat.mul_mod, Nat.add_mod (evN x (f.take k) % p), Nat.mod_mod, Nat.mod_mod]
theorem psub_ref {p : Nat} (hp : 0 < p) {f g : List Nat} (hg : within p g = true) : padd p f (pscale p g (p - 1)) = psub p f g := by
  refine ext_red hp (poly_within hp _ _) (poly_within hp _ _) (poly_trim _ _ _) (poly_trim _ _ _) fun i => ?_
  rw [padd_get, psub_get, Nat.add_mod, pscale_get, ← Nat.add_mod]
  have hgi := within_getD hp hg i
  generalize g.getD i 0 = b at *
  generalize f.getD i 0 = a at *
  obtain ⟨q, rfl⟩ : ∃ q, p = q + 1 := ⟨p - 1, by omega⟩
  rw [Nat.add_sub_cancel]
  by_cases hb : b = 0
  · subst hb; simp
  · have e : a + b * q = (a + (q + 1) - b) + (b - 1) * (q + 1) := by
      obtain ⟨c, rfl⟩ : ∃ c, b = c + 1 := ⟨b - 1, by omega⟩
      rw [Nat.add_sub_cancel, Nat.add_mul, Nat.mul_add]; omega
    rw [e, Nat.add_mul_mod_self_right]
end M

set_option maxHeartbeats 1000000 in
theorem reval_any (p x : Nat) (v : Value) (zs : List Nat) (w : World) (h2 : 1 < p) (hp : p ≤ 65537) (hx : x < p) (hw : M.within p zs = true) (hv : Nums w v zs) :
    Calls Try.prog 32 #[.int .u64 p, v, .int .u64 x] w fun e w' => e = .returned (.int .u64 (M.pev p zs x : Nat)) ∧ w = w' := by
  obtain ⟨A, cap, rfl, hcap, hlen, hC⟩ := nums_view hv
  have HV := Lib.hid hC
  have HW := Lib.hid hw
  clear hv hC hcap hw
  go_enter Try.func32, Try.ntmps32
  go_wp2_with fail
  go_loop [7, 8, 13] (fun ts ty t => ∃ k s y : Nat, k ≤ zs.length ∧ t = .int .i64 k ∧ ts = .int .u64 s ∧ ty = .int .u64 y ∧ s = M.evN x (zs.take k) % p ∧ y = x ^ k % p) (fun _ _ t => zs.length - (intOf t).toNat)
  case atStart => exact ⟨0, 0, 1, by omega, rfl, rfl, rfl, by simp [M.evN], by rw [Nat.pow_zero, Nat.mod_eq_of_lt h2]⟩
  case round =>
    obtain ⟨k, s, y, hk, rfl, rfl, rfl, hs, hy⟩ := hrel
    have hsl : s < p := by rw [hs]; exact Nat.mod_lt _ (by omega)
    have hyl : y < p := by rw [hy]; exact Nat.mod_lt _ (by omega)
    have HSS := Lib.hid hs
    have HYY := Lib.hid hy
    clear hs hy
    by_cases hlt : k < zs.length
    · obtain ⟨b, off, rfl, hb, hcell⟩ := HV.out (by omega)
      have hc := hcell k hlt
      have hal := M.within_mem HW.out hlt
      have hst := M.evTake (p := p) (x := x) hlt
      rw [← HSS.out, ← HYY.out] at hst
      obtain ⟨a, ea⟩ : ∃ a, a = zs.getD k 0 := ⟨_, rfl⟩
      rw [← ea] at hc hal hst
      have hm1 := refMul_any p a y w (by omega) hp hal hyl
      have hml : a * y % p < p := Nat.mod_lt _ (by omega)
      obtain ⟨m, em⟩ : ∃ m, m = a * y % p := ⟨_, rfl⟩
      rw [← em] at hm1 hml hst
      have ha1 := refAdd_any p s m w (by omega) hp hsl hml
      have hm2 := refMul_any p y x w (by omega) hp hyl hx
      obtain ⟨s2, es2⟩ : ∃ s2, s2 = (s + m) % p := ⟨_, rfl⟩
      obtain ⟨y2, ey2⟩ : ∃ y2, y2 = y * x % p := ⟨_, rfl⟩
      rw [← es2] at ha1 hst
      rw [← ey2] at hm2
      have HM1 := Lib.hid hm1
      have HA1 := Lib.hid ha1
      have HM2 := Lib.hid hm2
      have HST := Lib.hid hst
      have hye : y2 = x ^ (k + 1) % p := by rw [ey2, HYY.out, Nat.mod_mul_mod, Nat.pow_succ]
      have HYE := Lib.hid hye
      clear hm1 ha1 hm2 hst ea em es2 ey2 hcell hye
      go_wp2_with fail
      refine HM1.out.mono ?_
      rintro e w' ⟨rfl, rfl⟩
      go_wp2_with fail
      refine HA1.out.mono ?_
      rintro e w' ⟨rfl, rfl⟩
      go_wp2_with fail
      refine HM2.out.mono ?_
      rintro e w' ⟨rfl, rfl⟩
      go_wp2_with fail
      go_round
      case rel => exact ⟨k + 1, s2, y2, by omega, by go_num, rfl, rfl, HST.out, HYE.out⟩
      case measure => simp [intOf]; omega
    · obtain rfl : k = zs.length := by omega
      go_wp2_with fail
      go_ret
      exact ⟨ret1 (by rw [HSS.out, List.take_length]; rfl), rfl⟩
end Go.Proofs.Ytfkepkdfpjaniaa
namespace Go.Proofs.Ytfkepkdfpjaniaa
open Go.RowKit
set_option linter.unusedVariables false

set_option maxHeartbeats 1000000 in
theorem radd_any (p : Nat) (vf vg : Value) (f g : List Nat) (w : World) (h2 : 0 < p) (hp : p ≤ 65537) (hwf : M.within p f = true) (hwg : M.within p g = true) (hfl : f.length ≤ 1000) (hgl : g.length ≤ 1000) (hf : Nums w vf f) (hg : Nums w vg g) :
    Calls Try.prog 39 #[.int .u64 p, vf, vg] w (Gives w (M.padd p f g)) := by
  obtain ⟨A, cap, rfl, _, hlf, _⟩ := nums_view hf
  obtain ⟨A2, cap2, rfl, _, hlg, _⟩ := nums_view hg
  have HF := Lib.hid hf
  have HG := Lib.hid hg
  have HWF := Lib.hid hwf
  have HWG := Lib.hid hwg
  obtain ⟨i0, hi0, hz0, hz1, hz2⟩ := info_parts infoU64
  obtain ⟨n, en⟩ : ∃ n, n = max f.length g.length := ⟨_, rfl⟩
  have hn1 : f.length ≤ n := by omega
  have hn2 : g.length ≤ n := by omega
  have EN := Lib.hid en
  have hnl : n ≤ 1000 := by omega
  clear hf hg hwf hwg en
  rcases Nat.lt_or_ge f.length g.length with hm | hm
  all_goals
    go_enter Try.func39, Try.ntmps39
    go_wp2_with (refine wpList_make_rowL _ rfl _ _ 31 rfl 22 i0 (.int .u64 0) Try.underlying31 hi0 hz0 hz1 rfl .i64 .i64 _ _ n rfl rfl (by have := EN.out; omega) (by have := EN.out; omega) (by rw [hz2]; omega) (by omega) ?_; intro rep hrep; have HREP := Lib.hid hrep; clear hrep)
    have hr : Rw (w.alloc (.cells rep.toArray 22)) w.heap.size n (someOf (fun i => (f.getD i 0 + g.getD i 0) % p) 0) := by
      intro i hi
      have h1 := World.alloc_heap_new w (.cells rep.toArray 22)
      refine ⟨?_, frozen_of_row _ _ i _ _ h1⟩
      rw [cell_of_row _ _ i _ _ (0, 0) h1, HREP.out]
      simp [someOf, hi]
    have HR := Lib.hid hr
    clear hr
    go_loopw [17] (fun t wr => ∃ k : Nat, k ≤ n ∧ t = .int .i64 k ∧ Rw wr w.heap.size n (someOf (fun i => (f.getD i 0 + g.getD i 0) % p) k) ∧ Below w.heap.size w wr ∧ w.heap.size < wr.heap.size) (fun t _ => n - (intOf t).toNat)
    case atStart => exact ⟨0, by omega, rfl, HR.out, balloc w _, by simp⟩
    case round =>
      obtain ⟨k, hk, rfl, hr, hB, hsz⟩ := hrel
      have HB := Lib.hid hB
      have HR2 := Lib.hid hr
      have HS2 := Lib.hid hsz
      clear hB hr hsz
      by_cases hlt : k < n
      · have hx := M.within_getD h2 HWF.out k
        have hy := M.within_getD h2 HWG.out k
        have ht1 := Lib.hid (rat_any _ f k wr (by omega) (HF.out.at (Nat.le_refl _) HB.out HF.out))
        have ht2 := Lib.hid (rat_any _ g k wr (by omega) (HG.out.at (Nat.le_refl _) HB.out HG.out))
        have hst := someOf_step (fun i => (f.getD i 0 + g.getD i 0) % p) k
        obtain ⟨x, ex⟩ : ∃ x, x = f.getD k 0 := ⟨_, rfl⟩
        obtain ⟨y, ey⟩ : ∃ y, y = g.getD k 0 := ⟨_, rfl⟩
        rw [← ex] at hx ht1 hst
        rw [← ey] at hy ht2 hst
        have ha := refAdd_any p x y wr (by omega) hp hx hy
        obtain ⟨z, ez⟩ : ∃ z, z = (x + y) % p := ⟨_, rfl⟩
        rw [← ez] at ha hst
        have HA := Lib.hid ha
        obtain ⟨c3, f3⟩ := HR2.out k hlt
        have hr4 := (HR2.out.set hlt z).congr (fun i _ => hst i)
        have hB4 := HB.out.setCell (p := ⟨w.heap.size, k, none⟩) (Nat.le_refl _) (.int .u64 ((z : Nat) : Int))
        have HR4 := Lib.hid hr4
        have HB4 := Lib.hid hB4
        have hi1 : (k : Int) < (n : Nat) := by omega
        clear ex ey hst ha ez hr4 hB4
        go_wp2_with fail
        refine ht1.out.mono ?_
        rintro e w' ⟨rfl, rfl⟩
        go_wp2_with fail
        refine ht2.out.mono ?_
        rintro e w' ⟨rfl, rfl⟩
        go_wp2_with fail
        refine HA.out.mono ?_
        rintro e w' ⟨rfl, rfl⟩
        go_wp2_with fail
        go_roundw
        case rel => exact ⟨k + 1, by omega, by go_num, HR4.out, HB4.out, by simpa using HS2.out⟩
        case measure => simp [intOf]; omega
      · obtain rfl : k = n := by omega
        have hN5 := (HR2.out.congr (G := fun i => (f.getD i 0 + g.getD i 0) % p) (fun i hi => by unfold someOf; rw [if_pos hi])).nums HS2.out (by omega) (fun i _ => by have := Nat.mod_lt (f.getD i 0 + g.getD i 0) h2; omega)
        have HT := Lib.hid (rtrim_any _ _ wr hN5)
        clear hN5
        go_wp2_with fail
        refine HT.out.mono ?_
        rintro e w2 ⟨v2, rfl, hn3, hb3⟩
        have B3 := Lib.hid (bnext HB.out hb3)
        have N3 := Lib.hid hn3
        clear hn3 hb3
        go_wp2_with fail
        go_ret
        refine ⟨_, rfl, ?_, B3.out⟩
        unfold M.padd M.poly
        rw [← EN.out]
        exact N3.out

set_option maxHeartbeats 1000000 in
theorem rscale_any (p c : Nat) (vf : Value) (f : List Nat) (w : World) (h2 : 0 < p) (hp : p ≤ 65537) (hcp : c < p) (hwf : M.within p f = true) (hfl : f.length ≤ 1000) (hf : Nums w vf f) :
    Calls Try.prog 46 #[.int .u64 p, vf, .int .u64 c] w (Gives w (M.pscale p f c)) := by
  obtain ⟨A, cap, rfl, _, hlf, hC⟩ := nums_view hf
  have HV := Lib.hid hC
  have HWF := Lib.hid hwf
  obtain ⟨i0, hi0, hz0, hz1, hz2⟩ := info_parts infoU64
  clear hf hwf hC
  go_enter Try.func46, Try.ntmps46
  go_wp2_with (refine wpList_make_rowL _ rfl _ _ 31 rfl 22 i0 (.int .u64 0) Try.underlying31 hi0 hz0 hz1 rfl .i64 .i64 _ _ f.length rfl rfl rfl rfl (by rw [hz2]; omega) (by omega) ?_; intro rep hrep; have HREP := Lib.hid hrep; clear hrep)
  have hr : Rw (w.alloc (.cells rep.toArray 22)) w.heap.size f.length (someOf (fun i => f.getD i 0 * c % p) 0) := by
    intro i hi
    have h1 := World.alloc_heap_new w (.cells rep.toArray 22)
    refine ⟨?_, frozen_of_row _ _ i _ _ h1⟩
    rw [cell_of_row _ _ i _ _ (0, 0) h1, HREP.out]
    simp [someOf, hi]
  have HR := Lib.hid hr
  clear hr
  go_loopw [14] (fun t wr => ∃ k : Nat, k ≤ f.length ∧ t = .int .i64 k ∧ Rw wr w.heap.size f.length (someOf (fun i => f.getD i 0 * c % p) k) ∧ Below w.heap.size w wr ∧ w.heap.size < wr.heap.size) (fun t _ => f.length - (intOf t).toNat)
  case atStart => exact ⟨0, by omega, rfl, HR.out, balloc w _, by simp⟩
  case round =>
    obtain ⟨k, hk, rfl, hr, hB, hsz⟩ := hrel
    have HB := Lib.hid hB
    have HR2 := Lib.hid hr
    have HS2 := Lib.hid hsz
    clear hB hr hsz
    by_cases hlt : k < f.length
    · obtain ⟨b, off, rfl, hb, hcell⟩ := HV.out (by omega)
      have hc := (HB.out.cell (p := ⟨b, off + k, none⟩) hb).trans (hcell k hlt)
      have hx := M.within_mem HWF.out hlt
      have hst := someOf_step (fun i => f.getD i 0 * c % p) k
      obtain ⟨x, ex⟩ : ∃ x, x = f.getD k 0 := ⟨_, rfl⟩
      rw [← ex] at hx hc hst
      have ha := refMul_any p x c wr (by omega) hp hx hcp
      obtain ⟨z, ez⟩ : ∃ z, z = x * c % p := ⟨_, rfl⟩
      rw [← ez] at ha hst
      have HA := Lib.hid ha
      obtain ⟨c3, f3⟩ := HR2.out k hlt
      have hr4 := (HR2.out.set hlt z).congr (fun i _ => hst i)
      have hB4 := HB.out.setCell (p := ⟨w.heap.size, k, none⟩) (Nat.le_refl _) (.int .u64 ((z : Nat) : Int))
      have HR4 := Lib.hid hr4
      have HB4 := Lib.hid hB4
      clear ex hst ha ez hr4 hB4 hcell
      go_wp2_with fail
      refine HA.out.mono ?_
      rintro e w' ⟨rfl, rfl⟩
      go_wp2_with fail
      go_roundw
      case rel => exact ⟨k + 1, by omega, by go_num, HR4.out, HB4.out, by simpa using HS2.out⟩
      case measure => simp [intOf]; omega
    · obtain rfl : k = f.length := by omega
      have hN5 := (HR2.out.congr (G := fun i => f.getD i 0 * c % p) (fun i hi => by unfold someOf; rw [if_pos hi])).nums HS2.out (by omega) (fun i _ => by have := Nat.mod_lt (f.getD i 0 * c) h2; omega)
      have HT := Lib.hid (rtrim_any _ _ wr hN5)
      clear hN5
      go_wp2_with fail
      refine HT.out.mono ?_
      rintro e w2 ⟨v2, rfl, hn3, hb3⟩
      have B3 := Lib.hid (bnext HB.out hb3)
      have N3 := Lib.hid hn3
      clear hn3 hb3
      go_wp2_with fail
      go_ret
      exact ⟨_, rfl, N3.out, B3.out⟩

set_option maxHeartbeats 1000000 in
theorem rsub_any (p : Nat) (vf vg : Value) (f g : List Nat) (w : World) (h2 : 1 < p) (hp : p ≤ 65537) (hwf : M.within p f = true) (hwg : M.within p g = true) (hfl : f.length ≤ 1000) (hgl : g.length ≤ 1000) (hf : Nums w vf f) (hg : Nums w vg g) :
    Calls Try.prog 41 #[.int .u64 p, vf, vg] w (Gives w (M.psub p f g)) := by
  have HF := Lib.hid hf
  have hs := rscale_any p (p - 1) vg g w (by omega) hp (by omega) hwg hgl hg
  rw [show (((p - 1 : Nat)) : Int) = (p : Int) - 1 by omega] at hs
  have HS := Lib.hid hs
  have hw1 : M.within p (M.pscale p g (p - 1)) = true := M.poly_within (by omega) _ _
  have hl1 : (M.pscale p g (p - 1)).length ≤ g.length := M.poly_len p g.length (fun i => g.getD i 0 * (p - 1))
  have ha := fun W v (h1 : Nums W vf f) (h2' : Nums W v (M.pscale p g (p - 1))) => radd_any p vf v f (M.pscale p g (p - 1)) W (by omega) hp hwf hw1 hfl (by omega) h1 h2'
  rw [M.psub_ref (by omega) hwg] at ha
  have HA := Lib.hid ha
  obtain ⟨A, cap, rfl⟩ := nums_slice' hf
  obtain ⟨A2, cap2, rfl⟩ := nums_slice' hg
  clear hf hg hwf hwg hs ha hw1 hl1
  go_enter Try.func41, Try.ntmps41
  go_wp2_with fail
  refine HS.out.mono ?_
  rintro e w1 ⟨v1, rfl, hn1, hb1⟩
  have H1 := Lib.hid (HA.out w1 v1 (HF.out.below hb1) hn1)
  have B1 := Lib.hid hb1
  clear hb1 hn1
  go_wp2_with fail
  refine H1.out.mono ?_
  rintro e w2 ⟨v2, rfl, hn2, hb2⟩
  have B2 := Lib.hid (bnext B1.out hb2)
  have N2 := Lib.hid hn2
  clear hn2 hb2
  go_wp2_with fail
  go_ret
  exact ⟨_, rfl, N2.out, B2.out⟩
end Go.Proofs.Ytfkepkdfpjaniaa
namespace Go.Proofs.Ytfkepkdfpjaniaa
open Go.RowKit
set_option linter.unusedVariables false

theorem own_below {w w' : World} {base : Nat} {e : TypeId} {size : Nat} {v : Value} {n : Nat} {xs : List Value} (h : w.ownsRow base e size v n xs) (hb : Below w.heap.size w w') : w'.ownsRow base e size v n xs := by
  obtain ⟨h1, h2⟩ := h
  refine ⟨h1, ?_⟩
  rcases h2 with h2 | ⟨g, cap, cur, hv, hg, hh, r⟩
  · exact .inl h2
  · exact .inr ⟨g, cap, cur, hv, hg, (hb.block g (Array.getElem?_eq_some_iff.1 hh).1).trans hh, r⟩
theorem vals_snoc (l : List Nat) (k : Nat) : vals (l ++ [k]) = vals l ++ [.int .u64 (k : Nat)] := by simp [vals]
end Go.Proofs.Ytfkepkdfpjaniaa
