/-
  The walk of PairNothing: any secret fits to the rows of t parties.
-/
import Derived.Test.YtglehjcohdjhoaaPairNotA
namespace Go.Proofs.Ytglehjcohdjhoaa
open Go.RowKit
set_option linter.unusedVariables false
set_option maxRecDepth 100000

namespace M
theorem getD_pev0 {p : Nat} {z : List Nat} (hp : 1 < p) (hw : within p z = true) (h : pev p z 0 = 1) : z.getD 0 0 = 1 := by
  cases z with
  | nil => simp [pev, evN] at h
  | cons a l =>
    have ha : a < p := within_mem hw (show 0 < (a :: l).length by simp)
    have e : pev p (a :: l) 0 = a := by
      unfold pev
      simp only [evN, Nat.zero_mul, Nat.add_zero]
      exact Nat.mod_eq_of_lt ha
    rw [e] at h
    simpa using h
theorem lift_secret {p s y : Nat} (h3 : 3 ≤ p) (hs : s < p) (hy : y < p) {F : Nat → Nat → Nat} {z : List Nat} (h0 : F 0 0 = s) (hz : z.getD 0 0 = 1) : liftF p F ((y + p - s) % p) z 0 0 = y := by
  unfold liftF
  rw [h0, hz, Nat.mul_one, Nat.mod_eq_of_lt (show 1 < p by omega), Nat.mul_one, Nat.mod_mod, Nat.add_mod_mod, show s + (y + p - s) = y + p by omega, Nat.add_mod_right, Nat.mod_eq_of_lt hy]
theorem lift_back0 {p s y : Nat} (hs : s < p) (hy : y < p) : ((y + p - s) % p + (s + p - y) % p) % p = 0 := by
  rw [← Nat.add_mod, show y + p - s + (s + p - y) = p + p by omega, Nat.add_mod_right, Nat.mod_self]
theorem made_zero (p s n : Nat) (hn : 0 < n) (zs : List Nat) : el (tabMM n n (triF n (made p s n zs))) 0 0 = s := by
  rw [tabMM_el _ hn hn]
  simp [triF, triR, made]
theorem lift_ok {p n K : Nat} (hp : 0 < p) {m : List (List Nat)} (hm : POk p n m) (z : List Nat) : POk p n (tabMM n n (liftF p (el m) K z)) :=
  POk.tab (liftF_sym hm.sym p K z) fun i k _ _ => Nat.mod_lt _ hp
theorem lift_rows {p n K : Nat} (hp : 0 < p) (m : List (List Nat)) (z : List Nat) (hz : z.length ≤ n) {x : Nat} (h : pev p z x = 0) : rowp p n (el (tabMM n n (liftF p (el m) K z))) x = rowp p n (el m) x := by
  rw [rowp_of_colv (G := liftF p (el m) K z) fun k hk => pv_congr (fun j hj => by rw [tabMM_el _ hj hk]) _]
  exact liftF_row hp _ _ _ hz h
theorem lift_again {p n K L : Nat} (hp : 0 < p) {m : List (List Nat)} (hm : POk p n m) (z : List Nat) (h : (K + L) % p = 0) : tabMM n n (liftF p (el (tabMM n n (liftF p (el m) K z))) L z) = m := by
  have e := liftF_back (n := n) hp z (F := el m) (fun i k hi hk => hm.el_lt hi hk) h
  have e2 : tabMM n n (liftF p (el (tabMM n n (liftF p (el m) K z))) L z) = tabMM n n (el m) := tabMM_congr fun i hi j hj => by
    rw [← e i j hi hj]
    unfold liftF
    rw [tabMM_el _ hi hj]
  rw [e2, ← hm.rows']
end M

namespace pairNothingW
set_option maxHeartbeats 4000000 in
theorem good (W : World) (p T : Nat) (h3 : 3 ≤ p) (hp : p ≤ 65537) (hip : M.isP p = true) (hT : T ≤ 3) (s : Nat) (v : Value) (zs : List Nat) (hs : s < p) (hv : Nums W v zs) (t2 : Int) (v1 : Value) (xs : List Nat) (v2 : Value) (rows : List (List Nat)) (hx : Nums W v1 xs) (hr : Mat W v2 rows)
    (hl : xs.length ≤ T) (hw : M.within p xs = true) (htw : M.twice xs = false) (hrl : rows.length = 1) (hr0 : (rows.getD 0 []).length = 1) (y : Nat) (hey : y = (rows.getD 0 []).getD 0 0) (hy : y < p) :
    Calls Try.prog 13 #[.int .u64 p, .agg #[.int .u64 s, .int .i64 T, v], .agg #[.int .i64 t2, v1, v2]] W fun e W' => e = .returned (.bool true) ∧ Below W.heap.size W W' := by
  have hud : ∀ b : Bool, undef ≠ Value.bool b := fun b h => by cases h
  have hmk : M.mkE p s T = 0 := by unfold M.mkE; rw [if_pos (M.bnd_ok hip hT), if_neg (by omega)]
  have MK := Lib.hid fun (w : World) (b : Below W.heap.size W w) => pmake_any p s T v zs w (by omega) (by omega) (by omega) (by omega) (hv.below b)
  rw [hmk, Int.toNat_natCast] at MK
  obtain ⟨ds, ed⟩ : ∃ ds, ds = zs.drop (M.triR (T + 1) (T + 1) - 1) := ⟨_, rfl⟩
  have hm := M.made_ok6 (n := T + 1) (show 0 < p by omega) hs zs
  have hm0 := M.made_zero p s (T + 1) (by omega) zs
  obtain ⟨m, em⟩ : ∃ m, m = M.tabMM (T + 1) (T + 1) (M.triF (T + 1) (M.made p s (T + 1) zs)) := ⟨_, rfl⟩
  rw [← ed, ← em] at MK
  rw [← em] at hm hm0
  have HM := Lib.hid hm
  have HM0 := Lib.hid hm0
  have hcb : ((0 : Int) != 0) = false := rfl
  have hg1 : ¬ T < xs.length := by omega
  have hg2 : ¬ (T : Int) < (xs.length : Nat) := by omega
  have WI := Lib.hid fun (w : World) (b : Below W.heap.size W w) => within_any p v1 xs w (hx.below b) (c := 0) (by rw [hw]; rfl)
  have TW := Lib.hid fun (w : World) (b : Below W.heap.size W w) => twice_any v1 xs w (hx.below b)
  rw [htw] at TW
  have AW := Lib.hid fun (w : World) (b : Below W.heap.size W w) (hz : M.NoZ xs) => raway_any p v1 xs w hip hw (by omega) hz (hx.below b)
  have SB1 := Lib.hid fun (w : World) => refSub_any p y s w (by omega) hp hy hs
  have SB2 := Lib.hid fun (w : World) => refSub_any p s y w (by omega) hp hs hy
  obtain ⟨K, eK⟩ : ∃ K, K = (y + p - s) % p := ⟨_, rfl⟩
  obtain ⟨K2, eK2⟩ : ∃ K2, K2 = (s + p - y) % p := ⟨_, rfl⟩
  rw [← eK] at SB1
  rw [← eK2] at SB2
  have HK := Lib.hid (show K < p by rw [eK]; exact Nat.mod_lt _ (by omega))
  have HK2 := Lib.hid (show K2 < p by rw [eK2]; exact Nat.mod_lt _ (by omega))
  have HKK := Lib.hid (show (K + K2) % p = 0 by rw [eK, eK2]; exact M.lift_back0 hs hy)
  have HSEC := Lib.hid fun (z : List Nat) (hz : z.getD 0 0 = 1) => (show M.liftF p (M.el m) K z 0 0 = y by rw [eK]; exact M.lift_secret h3 hs hy hm0 hz)
  have RSZ := Lib.hid fun (w : World) => rsize_any (T : Int) w (by omega) (by omega)
  rw [M.psize_tri hT] at RSZ
  obtain ⟨A, cap, rfl⟩ := nums_slice' hv
  obtain ⟨Ax, cx, rfl, _, _, hcx⟩ := nums_view hx
  have HCX := Lib.hid hcx
  obtain ⟨Ar, cr, rfl, _⟩ := mat_view6 hr
  have hrw := (mat_row hr).2
  obtain ⟨br, off, rfl, hbl, hcells⟩ := hrw (by omega)
  obtain ⟨Au, cu, ck, _, hrow⟩ := hcells 0 (by omega)
  rw [Nat.add_zero] at ck
  obtain ⟨g0, o0, rfl, hg0, hce⟩ := hrow (by omega)
  have hc0 := hce 0 (by omega)
  rw [Nat.add_zero, show M.el rows 0 0 = y from hey.symm] at hc0
  rw [hr0] at ck
  rw [hrl]
  have HW := Lib.hid hw
  have HIP := Lib.hid hip
  clear hv hx hr hmk ed em hm hm0 hcx hrw hcells hrow hce hey eK eK2 hw htw hip hr0 hrl
  go_enter Try.func13, Try.ntmps13
  go_wp2_with fail
  refine (MK.out _ (bnext (balloc W _) (balloc _ _))).mono ?_
  rintro e w1 (⟨h, _⟩ | ⟨_, u1, u2, rfl, hm, hn, hb⟩)
  case inl => exact absurd rfl h
  have B1 := Lib.hid (bnext (bnext (balloc W _) (balloc _ _)) hb)
  have q0 := (hb.cell (p := ⟨W.heap.size, 0, none⟩) (by simp <;> omega)).trans (show _ = some (.int .u64 (s : Nat)) by simp)
  have q1 := (hb.cell (p := ⟨W.heap.size, 1, none⟩) (by simp <;> omega)).trans (show _ = some (.int .i64 (T : Int)) by simp)
  have r1 := (hb.cell (p := ⟨W.heap.size + 1, 1, none⟩) (by simp <;> omega)).trans (show _ = some (.slice Ax xs.length cx) by simp)
  have r2 := (hb.cell (p := ⟨W.heap.size + 1, 2, none⟩) (by simp <;> omega)).trans (show _ = some (.slice (some ⟨br, off, none⟩) 1 cr) by simp)
  have hs1 : W.heap.size + 1 < w1.heap.size := by have := hb.size; simp at this; omega
  have FM := Lib.hid hm
  obtain ⟨A1, c1, rfl, _⟩ := mat_view6 hm
  obtain ⟨A2, c2, rfl⟩ := nums_slice' hn
  clear hb hm hn MK
  go_wp2_with fail
  refine (WI.out _ B1.out).mono ?_
  rintro e w2 ⟨rfl, rfl⟩
  go_wp2_with fail
  refine (TW.out _ B1.out).mono ?_
  rintro e w2 ⟨rfl, hb⟩
  have B2 := Lib.hid (bnext B1.out hb)
  have p0 := (hb.cell (p := ⟨W.heap.size, 0, none⟩) (by show W.heap.size < w1.heap.size; omega)).trans q0
  have p1 := (hb.cell (p := ⟨W.heap.size, 1, none⟩) (by show W.heap.size < w1.heap.size; omega)).trans q1
  have t1 := (hb.cell (p := ⟨W.heap.size + 1, 1, none⟩) hs1).trans r1
  have t3 := (hb.cell (p := ⟨W.heap.size + 1, 2, none⟩) hs1).trans r2
  have hs2 : W.heap.size + 1 < w2.heap.size := Nat.lt_of_lt_of_le hs1 hb.size
  have FM2 := Lib.hid (FM.out.below hb)
  have ck2 := (B2.out.cell (p := ⟨br, off, none⟩) hbl).trans ck
  have hc2 := (B2.out.cell (p := ⟨g0, o0, none⟩) hg0).trans hc0
  have hyp : ¬ p ≤ y := by omega
  have hyp2 : ¬ (p : Int) ≤ (y : Nat) := by omega
  clear hb q0 q1 r1 r2 hs1 FM
  go_wp2_with fail
  go_loopw [89] (fun t wr => ∃ k : Nat, k ≤ xs.length ∧ t = .int .i64 k ∧ (∀ i, i < k → xs.getD i 0 ≠ 0) ∧ Below w2.heap.size w2 wr) (fun t _ => xs.length - (intOf t).toNat)
  case atStart => exact ⟨0, by omega, rfl, fun i hi => absurd hi (by omega), Below.refl _ _⟩
  case round =>
    obtain ⟨k, hk, rfl, hz, hB⟩ := hrel
    have HZ := Lib.hid hz
    have q0 := (hB.cell (p := ⟨W.heap.size, 0, none⟩) (by show W.heap.size < w2.heap.size; omega)).trans p0
    have q1 := (hB.cell (p := ⟨W.heap.size, 1, none⟩) (by show W.heap.size < w2.heap.size; omega)).trans p1
    have r1 := (hB.cell (p := ⟨W.heap.size + 1, 1, none⟩) hs2).trans t1
    have r2 := (hB.cell (p := ⟨W.heap.size + 1, 2, none⟩) hs2).trans t3
    have B3 := Lib.hid (bnext B2.out hB)
    have FM3 := Lib.hid (FM2.out.below hB)
    have hs3 : W.heap.size + 1 < wr.heap.size := Nat.lt_of_lt_of_le hs2 hB.size
    have HBB := Lib.hid hB
    clear hz hB
    by_cases hlt : k < xs.length
    · obtain ⟨b, ox, rfl, hbx, hcx⟩ := HCX.out (by omega)
      have cx1 := (B3.out.cell (p := ⟨b, ox + k, none⟩) hbx).trans (hcx k hlt)
      obtain ⟨x, ex⟩ : ∃ x, x = xs.getD k 0 := ⟨_, rfl⟩
      rw [← ex] at cx1
      have EX := Lib.hid ex
      clear hcx ex
      by_cases hx0 : x = 0
      · have hb0 : ((x : Int) == 0) = true := by simp [hx0]
        clear hx0
        go_wp2_with fail
        refine (alive6_any _).mono ?_
        rintro e w9 ⟨rfl, hb⟩
        have B9 := Lib.hid (bnext B3.out hb)
        clear hb
        go_wp2_with fail
        go_ret
        exact ⟨rfl, B9.out⟩
      · have hb0 : ((x : Int) == 0) = false := by simp [hx0]
        have HX0 := Lib.hid hx0
        clear hx0
        go_wp2_with fail
        go_roundw
        case rel => exact ⟨k + 1, by omega, by go_num, fun i hi => by
          rcases (show i < k ∨ i = k by omega) with h | rfl
          · exact HZ.out i h
          · rw [← EX.out]; exact HX0.out, HBB.out⟩
        case measure => simp [intOf]; omega
    · obtain rfl : k = xs.length := by omega
      have hnz : M.NoZ xs := fun x hx => by
        obtain ⟨i, hi, rfl⟩ := M.mem_getD hx
        exact HZ.out i hi
      have ck3 := (B3.out.cell (p := ⟨br, off, none⟩) hbl).trans ck
      have hc3 := (B3.out.cell (p := ⟨g0, o0, none⟩) hg0).trans hc0
      obtain ⟨w3, ew3⟩ : ∃ x, x = wr := ⟨_, rfl⟩
      rw [← ew3] at q0 q1 r1 r2 B3 FM3 hs3 ck3 hc3 ⊢
      have A3 := Lib.hid (AW.out w3 B3.out hnz)
      clear hnz ew3 p0 p1 t1 t3 ck2 hc2 hs2 HBB FM2 B2 HZ
      go_wp2_with fail
      refine A3.out.mono ?_
      rintro e w4 ⟨vz, z, rfl, hnz, hz, hb⟩
      have B4 := Lib.hid (bnext B3.out hb)
      have s0 := (hb.cell (p := ⟨W.heap.size, 0, none⟩) (by show W.heap.size < w3.heap.size; omega)).trans q0
      have s1 := (hb.cell (p := ⟨W.heap.size, 1, none⟩) (by show W.heap.size < w3.heap.size; omega)).trans q1
      have u1 := (hb.cell (p := ⟨W.heap.size + 1, 1, none⟩) hs3).trans r1
      have hs4 : W.heap.size + 1 < w4.heap.size := Nat.lt_of_lt_of_le hs3 hb.size
      have FM4 := Lib.hid (FM3.out.below hb)
      obtain ⟨hzw, _, hzl, hz1, hz0⟩ := hz
      have hzT : z.length ≤ T + 1 := by omega
      have HZ0 := Lib.hid hz0
      have HZT := Lib.hid hzT
      have hlc : ∀ (mm : List (List Nat)) (L : Nat), M.POk p (T + 1) mm → L < p → M.liftC p T mm L z = 0 := fun mm L h hL => by
        unfold M.liftC
        rw [if_pos (M.pchk_ok HIP.out hT h), Int.toNat_natCast]
        unfold M.liftE
        rw [if_neg (by omega), if_neg (by omega), hzw]; rfl
      have HLC := Lib.hid hlc
      have hgok := M.lift_ok (K := K) (show 0 < p by omega) HM.out z
      have hg00 : M.el (M.tabMM (T + 1) (T + 1) (M.liftF p (M.el m) K z)) 0 0 = y := by rw [M.tabMM_el _ (by omega) (by omega)]; exact HSEC.out z (M.getD_pev0 (by omega) hzw hz1)
      have hback := M.lift_again (show 0 < p by omega) HM.out z HKK.out
      have hrws := fun x (hx : M.pev p z x = 0) => M.lift_rows (K := K) (show 0 < p by omega) m z hzT hx
      obtain ⟨g, eg⟩ : ∃ g, g = M.tabMM (T + 1) (T + 1) (M.liftF p (M.el m) K z) := ⟨_, rfl⟩
      rw [← eg] at hgok hg00 hback hrws
      have hL1 : ∀ W' : World, Below w4.heap.size w4 W' → Calls Try.prog 36 #[.int .u64 p, .int .i64 T, .slice A1 m.length c1, .int .u64 (K : Nat), vz] W' fun e w' => ∃ A5 c5, e = .returned (.tuple #[.slice A5 (T + 1) c5, .int .i64 0]) ∧ Mat w' (.slice A5 (T + 1) c5) g ∧ Below W'.heap.size W' w' := fun W' b =>
        (plift_any p T _ m K vz z W' (by omega) (by omega) (by omega) (by have := HK.out; omega) (FM4.out.below b) (hnz.below b)).mono (by
          rintro e w5 (⟨h, _⟩ | ⟨_, u, rfl, hm5, hb5⟩)
          · exact absurd (hlc m K HM.out HK.out) h
          · rw [Int.toNat_natCast, ← eg] at hm5
            obtain ⟨A5, c5, rfl, _⟩ := mat_view6 hm5
            rw [hgok.len] at hm5 ⊢
            exact ⟨A5, c5, rfl, hm5, hb5⟩)
      have LF1 := Lib.hid hL1
      have HGOK := Lib.hid hgok
      have HG00 := Lib.hid hg00
      have HBK := Lib.hid hback
      have HRWS := Lib.hid hrws
      have HNZ := Lib.hid hnz
      obtain ⟨Az, cz, rfl⟩ := nums_slice' hnz
      clear hb hnz hz0 hzT hlc hgok hg00 hback hrws eg hL1 hz1 q0 q1 r1 r2 ck3 hc3 hs3 FM3 hzw hzl
      have LF1d := Lib.hid (LF1.out w4.drew (Below.refl _ _).drew)
      go_wp2_with fail
      go_region_held3 (fun W' => W'.cell? ⟨W.heap.size, 0, none⟩ = some (.int .u64 (s : Nat)) ∧ W'.cell? ⟨W.heap.size, 1, none⟩ = some (.int .i64 (T : Int)))
        (first | exact ⟨q0, q1⟩ | exact ⟨s0, s1⟩ | go_keep)
        (first
          | (go_at_call 49; (with_reducible refine (SB1.out _).mono ?_); rintro e w5 ⟨rfl, rfl⟩)
          | (go_at_call 36; (with_reducible refine LF1d.out.mono ?_); rintro e w5 ⟨A5, c5, rfl, hm5, hb⟩; have q0 := (hb.cell (p := ⟨W.heap.size, 0, none⟩) (by show W.heap.size < w4.heap.size; omega)).trans s0; have q1 := (hb.cell (p := ⟨W.heap.size, 1, none⟩) (by show W.heap.size < w4.heap.size; omega)).trans s1))
      have hb5 : Below w4.heap.size w4 w5 := below_of_drew6 hb
      have B5 := Lib.hid (bnext B4.out hb5)
      have r1 := (hb5.cell (p := ⟨W.heap.size + 1, 1, none⟩) hs4).trans u1
      have hs5 : W.heap.size + 1 < w5.heap.size := Nat.lt_of_lt_of_le hs4 hb5.size
      have HB45 := Lib.hid hb5
      have GM5 := Lib.hid hm5
      have hckg : M.pchk p T g = 0 := M.pchk_ok HIP.out hT HGOK.out
      have TP := Lib.hid (ptape_any p T _ g w5 (by omega) (by omega) (by omega) (by have := hm5; rwa [← HGOK.out.len] at this))
      rw [hckg, Int.toNat_natCast, HG00.out, HGOK.out.len] at TP
      have hgl : ∀ i k, i < T + 1 → k < T + 1 → M.el g i k < p := fun i k hi hk => HGOK.out.el_lt hi hk
      have htw := M.tapeK_lt (p := p) (n := T + 1) (F := M.el g) hgl (T + 1) (Nat.le_refl _)
      have htl := M.tapeK_len (T + 1) (M.el g) (T + 1)
      obtain ⟨tp, etp⟩ : ∃ tp, tp = (M.tapeK (T + 1) (M.el g) (T + 1)).tail := ⟨_, rfl⟩
      rw [← etp] at TP
      have htpl : tp.length = M.triR (T + 1) (T + 1) - 1 := by rw [etp, List.length_tail, htl]
      have htpw : M.within p tp = true := M.within_sub htw fun x hx => by rw [etp] at hx; exact List.mem_of_mem_tail hx
      have TWI := Lib.hid fun (w : World) (va : Value) (hn : Nums w va tp) => within_any p va tp w hn (c := 0) (by rw [htpw]; rfl)
      obtain ⟨N, eN⟩ : ∃ N, N = tp.length := ⟨_, rfl⟩
      rw [← htpl, ← eN] at RSZ
      have hNN : ((N : Int) != (N : Int)) = false := by simp
      have hyy : ((y : Int) != (y : Int)) = false := by simp
      have EN := Lib.hid eN
      clear hb hb5 hm5 s0 s1 u1 hs4 hckg hgl htw htl etp htpl htpw eN LF1d
      go_wp2_with fail
      refine TP.out.mono ?_
      rintro e w6 (⟨h, _⟩ | ⟨_, vt, rfl, hnt, hb⟩)
      case inl => exact absurd rfl h
      have B6 := Lib.hid (bnext B5.out hb)
      have s0 := (hb.cell (p := ⟨W.heap.size, 0, none⟩) (by show W.heap.size < w5.heap.size; omega)).trans q0
      have s1 := (hb.cell (p := ⟨W.heap.size, 1, none⟩) (by show W.heap.size < w5.heap.size; omega)).trans q1
      have u1 := (hb.cell (p := ⟨W.heap.size + 1, 1, none⟩) hs5).trans r1
      have hs6 : W.heap.size + 1 < w6.heap.size := Nat.lt_of_lt_of_le hs5 hb.size
      have HB46 := Lib.hid (bnext HB45.out hb)
      have GM6 := Lib.hid (GM5.out.below hb)
      have TW6 := Lib.hid (TWI.out _ _ hnt)
      obtain ⟨At, ct, rfl⟩ := nums_slice' hnt
      rw [← EN.out] at TW6 ⊢
      clear hb hnt q0 q1 r1 hs5 HB45 GM5 TP TWI
      go_wp2_with fail
      refine (RSZ.out _).mono ?_
      rintro e w7 ⟨rfl, rfl⟩
      go_wp2_with fail
      refine TW6.out.mono ?_
      rintro e w7 ⟨rfl, rfl⟩
      go_wp2_with fail
      have HGO5 := Lib.hid (GM6.out)
      have RO := Lib.hid fun (w : World) (u : Value) (mm : List (List Nat)) (x : Nat) (hx : x < p) (hok : M.POk p (T + 1) mm) (h : Mat w u mm) => prow_any p T u mm x w (by omega) (by omega) (by omega) (by omega) h
      have HRC := Lib.hid (show ∀ (mm : List (List Nat)) x, x < p → M.POk p (T + 1) mm → M.rowC p T mm x = 0 from fun mm x hx h => by unfold M.rowC; rw [if_pos (M.pchk_ok HIP.out hT h), if_neg (by omega)])
      clear hNN
      go_loopw [158] (fun t wr => ∃ j : Nat, j ≤ xs.length ∧ t = .int .i64 j ∧ Below w6.heap.size w6 wr) (fun t _ => xs.length - (intOf t).toNat)
      case atStart => exact ⟨0, by omega, rfl, Below.refl _ _⟩
      case round =>
        obtain ⟨j, hj, rfl, hB⟩ := hrel
        have q0 := (hB.cell (p := ⟨W.heap.size, 0, none⟩) (by show W.heap.size < w6.heap.size; omega)).trans s0
        have q1 := (hB.cell (p := ⟨W.heap.size, 1, none⟩) (by show W.heap.size < w6.heap.size; omega)).trans s1
        have hs7 : W.heap.size + 1 < wr.heap.size := Nat.lt_of_lt_of_le hs6 hB.size
        obtain ⟨w7, ew7⟩ : ∃ x, x = wr := ⟨_, rfl⟩
        rw [← ew7] at hB q0 q1 hs7 ⊢
        have HB7 := Lib.hid hB
        have B7 := Lib.hid (bnext B6.out hB)
        have GM7 := Lib.hid (GM6.out.below hB)
        have HB47 := Lib.hid (bnext HB46.out hB)
        clear hB ew7
        by_cases hlt : j < xs.length
        · obtain ⟨b, ox, rfl, hbx, hcx⟩ := HCX.out (by omega)
          have cx1 := (B7.out.cell (p := ⟨b, ox + j, none⟩) hbx).trans (hcx j hlt)
          have hxp := M.within_mem HW.out hlt
          have hpz := HZ0.out j hlt
          have R1 := RO.out w7 _ m (xs.getD j 0) hxp HM.out (FM4.out.below HB47.out)
          rw [HRC.out m _ hxp HM.out, Int.toNat_natCast] at R1
          have R2 := fun (w : World) (h : Mat w (.slice A5 (T + 1) c5) g) => RO.out w _ g (xs.getD j 0) hxp HGOK.out h
          rw [HRC.out g _ hxp HGOK.out, Int.toNat_natCast, HRWS.out _ hpz] at R2
          obtain ⟨x, ex⟩ : ∃ x, x = xs.getD j 0 := ⟨_, rfl⟩
          rw [← ex] at cx1 R1 R2
          obtain ⟨r, er⟩ : ∃ r, r = M.rowp p (T + 1) (M.el m) x := ⟨_, rfl⟩
          rw [← er] at R1 R2
          have RR1 := Lib.hid R1
          have RR2 := Lib.hid R2
          clear hcx hxp hpz R1 R2 ex er
          go_wp2_with fail
          refine RR1.out.mono ?_
          rintro e w8 ⟨hb, ⟨h, _⟩ | ⟨_, v8, rfl, hn8⟩⟩
          case inl => exact absurd rfl h
          have p1 := (hb.cell (p := ⟨W.heap.size, 1, none⟩) (by show W.heap.size < w7.heap.size; omega)).trans q1
          have hs8 : W.heap.size + 1 < w8.heap.size := Nat.lt_of_lt_of_le hs7 hb.size
          have HB8 := Lib.hid (bnext HB7.out hb)
          have RS8 := Lib.hid (RR2.out w8 (GM7.out.below hb))
          have HN8 := Lib.hid hn8
          obtain ⟨A8, c8, rfl⟩ := nums_slice' hn8
          clear hb hn8 q0 q1
          go_wp2_with fail
          refine RS8.out.mono ?_
          rintro e w9 ⟨hb, ⟨h, _⟩ | ⟨_, v9, rfl, hn9⟩⟩
          case inl => exact absurd rfl h
          have HB9 := Lib.hid (bnext HB8.out hb)
          have SM9 := Lib.hid (same_any _ _ _ w9 (HN8.out.below hb) hn9)
          obtain ⟨A9, c9, rfl⟩ := nums_slice' hn9
          clear hb hn9 p1
          go_wp2_with fail
          refine SM9.out.mono ?_
          rintro e w10 ⟨rfl, hb⟩
          have HB10 := Lib.hid (bnext HB9.out hb)
          clear hb
          go_wp2_with fail
          go_roundw
          case rel => exact ⟨j + 1, by omega, by go_num, HB10.out⟩
          case measure => simp [intOf]; omega
        · obtain rfl : j = xs.length := by omega
          have hL2 : Calls Try.prog 36 #[.int .u64 p, .int .i64 T, .slice A5 (T + 1) c5, .int .u64 (K2 : Nat), .slice Az z.length cz] w7.drew fun e w' => ∃ A5 c5, e = .returned (.tuple #[.slice A5 (T + 1) c5, .int .i64 0]) ∧ Mat w' (.slice A5 (T + 1) c5) m ∧ Below w7.drew.heap.size w7.drew w' :=
            (plift_any p T _ g K2 _ z w7.drew (by omega) (by omega) (by omega) (by have := HK2.out; omega) (by have := (GM7.out.below (Below.refl _ _).drew : Mat w7.drew (.slice A5 (T + 1) c5) g); exact this) ((HNZ.out.below HB47.out).below (Below.refl _ _).drew)).mono (by
              rintro e w5 (⟨h, _⟩ | ⟨_, u, rfl, hm5, hb5⟩)
              · exact absurd (HLC.out g K2 HGOK.out HK2.out) h
              · rw [Int.toNat_natCast, HBK.out] at hm5
                obtain ⟨A5, c5, rfl, _⟩ := mat_view6 hm5
                rw [HM.out.len] at hm5 ⊢
                exact ⟨A5, c5, rfl, hm5, hb5⟩)
          have LF2 := Lib.hid hL2
          have FM7 := Lib.hid (FM4.out.below HB47.out)
          clear hL2
          go_wp2_with fail
          go_region_held3 (fun W' => W'.cell? ⟨W.heap.size, 0, none⟩ = some (.int .u64 (s : Nat)) ∧ W'.cell? ⟨W.heap.size, 1, none⟩ = some (.int .i64 (T : Int)))
            (first | exact ⟨p0, p1⟩ | exact ⟨q0, q1⟩ | go_keep)
            (first
              | (go_at_call 49; (with_reducible refine (SB2.out _).mono ?_); rintro e w8 ⟨rfl, rfl⟩)
              | (go_at_call 36; (with_reducible refine LF2.out.mono ?_); rintro e w8 ⟨A8, c8, rfl, hm8, hb⟩; have p0 := (hb.cell (p := ⟨W.heap.size, 0, none⟩) (by show W.heap.size < w7.heap.size; omega)).trans q0; have p1 := (hb.cell (p := ⟨W.heap.size, 1, none⟩) (by show W.heap.size < w7.heap.size; omega)).trans q1))
          have hb8 : Below w7.heap.size w7 w8 := below_of_drew6 hb
          have B8 := Lib.hid (bnext B7.out hb8)
          have IS8 := Lib.hid (is6_good _ _ m w8 (by rw [HM.out.len]; omega) hm8 (FM7.out.below hb8))
          clear hb hb8 hm8 p0 p1 q0 q1
          go_wp2_with fail
          refine IS8.out.mono ?_
          rintro e w9 ⟨rfl, hb⟩
          have B9 := Lib.hid (bnext B8.out hb)
          clear hb
          go_wp2_with fail
          refine (alive6_any _).mono ?_
          rintro e w10 ⟨rfl, hb⟩
          have B10 := Lib.hid (bnext B9.out hb)
          clear hb
          go_wp2_with fail
          go_ret
          exact ⟨rfl, B10.out⟩
theorem walk (W : World) (p : Nat) (hp : p < 18446744073709551616) (s : Nat) (t : Int) (v : Value) (zs : List Nat) (hs : s < 18446744073709551616) (h1 : -9223372036854775808 ≤ t) (h2 : t ≤ 9223372036854775807) (hv : Nums W v zs) (t2 : Int) (v1 : Value) (xs : List Nat) (v2 : Value) (rows : List (List Nat)) (h21 : -9223372036854775808 ≤ t2) (h22 : t2 ≤ 9223372036854775807) (hx : Nums W v1 xs) (hr : Mat W v2 rows) :
    Calls Try.prog 13 #[.int .u64 p, .agg #[.int .u64 s, .int .i64 t, v], .agg #[.int .i64 t2, v1, v2]] W fun e W' => e = .returned (.bool true) ∧ Below W.heap.size W W' := by
  by_cases hc : M.mkE p s t = 0
  · obtain ⟨T, rfl, hT, hi, hsp⟩ := M.mkE_zero6 hc
    obtain ⟨h3, hp5⟩ := M.pos_of hi
    by_cases hl : T < xs.length
    · exact long W p T h3 hp5 hi hT s v zs hsp hv t2 v1 xs v2 rows hx hr hl
    · have hl' : xs.length ≤ T := by omega
      cases hw : M.within p xs with
      | false => exact out W p T h3 hp5 hi hT s v zs hsp hv t2 v1 xs v2 rows hx hr hl' hw
      | true =>
        cases htw : M.twice xs with
        | true => exact dup W p T h3 hp5 hi hT s v zs hsp hv t2 v1 xs v2 rows hx hr hl' hw htw
        | false =>
          by_cases hrl : rows.length = 1
          · by_cases hr0 : (rows.getD 0 []).length = 1
            · by_cases hy : p ≤ (rows.getD 0 []).getD 0 0
              · exact big W p T h3 hp5 hi hT s v zs hsp hv t2 v1 xs v2 rows hx hr hl' hw htw hrl hr0 hy
              · exact good W p T h3 hp5 hi hT s v zs hsp hv t2 v1 xs v2 rows hx hr hl' hw htw hrl hr0 _ rfl (by omega)
            · exact noelem W p T h3 hp5 hi hT s v zs hsp hv t2 v1 xs v2 rows hx hr hl' hw htw hrl hr0
          · exact norow W p T h3 hp5 hi hT s v zs hsp hv t2 v1 xs v2 rows hx hr hl' hw htw hrl
  · exact bad W p hp s t v zs hs h1 h2 hv t2 v1 xs v2 rows hx hr hc
end pairNothingW
end Go.Proofs.Ytglehjcohdjhoaa
