/-
  The walk of PairHeld: rows that do not quarrel belong to exactly one pair.
-/
import Derived.Test.YtglehjcohdjhoaaPairHeldA
namespace Go.Proofs.Ytglehjcohdjhoaa
open Go.RowKit
set_option linter.unusedVariables false
set_option maxRecDepth 100000

theorem wrapA6 {n T : Nat} (h : n ≤ 13) (h2 : T ≤ 3) : IntKind.i64.wrap ((n : Int) - (T : Int)) = (n : Int) - (T : Int) := by rw [IntKind.wrap_i64]; omega
theorem wrapB6 {n T d : Nat} (h : d = n - T - 1) (h2 : T + 1 ≤ n) (h3 : n ≤ 13) : IntKind.i64.wrap ((n : Int) - (T : Int) - 1) = (d : Nat) := by rw [IntKind.wrap_i64]; omega
theorem dd_eq6 {n T d : Nat} (h : d = n - T - 1) (h2 : T + 1 ≤ n) : (n : Int) - (T : Int) - 1 = (d : Nat) := by omega
namespace pairHeldW
set_option maxHeartbeats 4000000 in
theorem good (W : World) (p T : Nat) (hip : M.isP p = true) (hT : T ≤ 3) (v : Value) (xs : List Nat) (v2 : Value) (rows : List (List Nat)) (hv : Nums W v xs) (hv2 : Mat W v2 rows) (hok : M.ROk p xs rows) (hl : T + 1 ≤ xs.length) :
    Calls Try.prog 12 #[.int .u64 p, .agg #[.int .i64 T, v, v2]] W fun e W' => e = .returned (.bool true) ∧ Below W.heap.size W W' := by
  have hud : ∀ b : Bool, undef ≠ Value.bool b := fun b h => by cases h
  obtain ⟨h3, hp5⟩ := M.pos_of hip
  have hbn := M.bnd_ok hip hT
  have hre := M.rowsE_ok hok
  have hx13 := hok.len
  have hrl := hok.rl
  have BN := Lib.hid fun (w : World) => rbounds_any p T w (by omega) (by omega) (by omega)
  rw [hbn] at BN
  have RW := Lib.hid fun (w : World) (b : Below W.heap.size W w) => rrows6_any p v v2 xs rows w (hv.below b) (hv2.below b)
  rw [hre] at RW
  have QU := Lib.hid fun (w : World) (b : Below W.heap.size W w) => pquarrels_any p v v2 xs rows w (by omega) (hv.below b) (hv2.below b)
  unfold PQ at QU
  rw [show M.polyE p xs rows = 0 by unfold M.polyE; rw [if_pos hip, hre]] at QU
  have JO := Lib.hid fun (w : World) (b : Below W.heap.size W w) => pjoin_any p T v v2 xs rows w (by omega) (by omega) (by omega) (hv.below b) (hv2.below b)
  unfold PJ at JO
  rw [show M.joinC p T xs rows = 0 by unfold M.joinC; rw [if_pos hbn, if_pos hre, Int.toNat_natCast, if_neg (by omega)], Int.toNat_natCast] at JO
  have hAG : M.qAll p xs rows xs.length = [] ↔ M.Agreed p xs rows := M.qAll_nil
  obtain ⟨d, ed⟩ : ∃ d, d = xs.length - T - 1 := ⟨_, rfl⟩
  have hdl : d < xs.length := by omega
  have hxl : xs.length - d = T + 1 := by omega
  obtain ⟨l, el⟩ : ∃ l, l = M.qAll p xs rows xs.length := ⟨_, rfl⟩
  rw [← el] at QU hAG
  have HAG := Lib.hid hAG
  have hokd := hok.drop d
  have JS := Lib.hid fun (w : World) (u u2 : Value) (hu : Nums w u (xs.drop d)) (hu2 : Mat w u2 (rows.drop d)) => pjoin_any p T u u2 (xs.drop d) (rows.drop d) w (by omega) (by omega) (by omega) hu hu2
  unfold PJ at JS
  rw [show M.joinC p T (xs.drop d) (rows.drop d) = 0 by unfold M.joinC; rw [if_pos hbn, if_pos (M.rowsE_ok hokd), Int.toNat_natCast, if_neg (by rw [List.length_drop]; omega)], Int.toNat_natCast] at JS
  have HOK := Lib.hid hok
  have HOD := Lib.hid hokd
  have HV := Lib.hid hv
  have HV2 := Lib.hid hv2
  have HX := Lib.hid hxl
  obtain ⟨A, cap, rfl, hcap, _, hcx⟩ := nums_view hv
  have HCX := Lib.hid hcx
  obtain ⟨A2, cap2, rfl, hcap2, _⟩ := mat_view6 hv2
  have HM := Lib.hid (mat_row hv2).2
  have hwA := wrapA6 hx13 hT
  have hwB := wrapB6 ed hl hx13
  obtain ⟨n, en⟩ : ∃ n, n = xs.length := ⟨_, rfl⟩
  have EN := Lib.hid en
  have RN := Lib.hid (hrl.trans en.symm)
  rw [hrl] at hcap2
  have hw1 : IntKind.i64.wrap ((T : Int) + 1) = (T : Int) + 1 := by rw [IntKind.wrap_i64]; omega
  have HLN := Lib.hid (show T + 1 ≤ n by omega)
  have hcb0 : ((0 : Int) != 0) = false := rfl
  have HIP := Lib.hid hip
  rw [hrl, ← en] at RW QU JO HV2 ⊢
  rw [← en] at HV hl hx13 hdl hwA hwB hcap hcap2
  have hl1 : ¬ n < T + 1 := by omega
  have hl3 : ¬ (n : Int) < (T : Int) + 1 := by omega
  have hdn : (d : Int) ≤ (n : Nat) := by omega
  have hd0 : (0 : Int) ≤ (d : Nat) := by omega
  have hdc : (d : Int) ≤ (cap : Nat) := by omega
  have hdc2 : (d : Int) ≤ (cap2 : Nat) := by omega
  have hne1 : ¬ cap = d := by omega
  have hne2 : ¬ cap2 = d := by omega
  have hnc : (n : Int) ≤ (cap : Nat) := by omega
  have hnc2 : (n : Int) ≤ (cap2 : Nat) := by omega
  clear hv hv2 hok hokd hbn hre hcx en hrl el hAG hip ed hxl
  go_enter Try.func12, Try.ntmps12
  go_wp2_with fail
  refine (BN.out _).mono ?_
  rintro e w1 ⟨rfl, rfl⟩
  go_wp2_with fail
  refine (RW.out _ (balloc W _)).mono ?_
  rintro e w1 ⟨rfl, hb⟩
  have B1 := Lib.hid (bnext (balloc W _) hb)
  have q0 := (hb.cell (p := ⟨W.heap.size, 0, none⟩) (by simp)).trans (show _ = some (.int .i64 (T : Int)) by simp)
  have q1 := (hb.cell (p := ⟨W.heap.size, 1, none⟩) (by simp)).trans (show _ = some (.slice A n cap) by simp)
  have q2 := (hb.cell (p := ⟨W.heap.size, 2, none⟩) (by simp)).trans (show _ = some (.slice A2 n cap2) by simp)
  have hs1 : W.heap.size < w1.heap.size := by have := hb.size; simp at this; omega
  clear hb RW BN
  go_wp2_with fail
  go_loopw [44] (fun t wr => ∃ k : Nat, k ≤ n ∧ t = .int .i64 k ∧ (∀ i, i < k → (M.trim (rows.getD i [])).length ≤ T + 1) ∧ Below w1.heap.size w1 wr) (fun t _ => n - (intOf t).toNat)
  case atStart => exact ⟨0, by omega, rfl, fun i hi => absurd hi (by omega), Below.refl _ _⟩
  case round =>
    obtain ⟨k, hk, rfl, hs, hB⟩ := hrel
    have HS := Lib.hid hs
    have HB := Lib.hid hB
    have r0 := (hB.cell (p := ⟨W.heap.size, 0, none⟩) hs1).trans q0
    have r1 := (hB.cell (p := ⟨W.heap.size, 1, none⟩) hs1).trans q1
    have r2 := (hB.cell (p := ⟨W.heap.size, 2, none⟩) hs1).trans q2
    have hs2 : W.heap.size < wr.heap.size := Nat.lt_of_lt_of_le hs1 hB.size
    obtain ⟨wx, ewx⟩ : ∃ x, x = wr := ⟨_, rfl⟩
    rw [← ewx] at HB r0 r1 r2 hs2 ⊢
    have BX := Lib.hid (bnext B1.out HB.out)
    clear hs hB ewx
    by_cases hlt : k < n
    · obtain ⟨b, off, rfl, hbl, hcells⟩ := HM.out (by rw [RN.out]; omega)
      obtain ⟨Au, cu, ck, hN, _⟩ := hcells k (by rw [RN.out]; exact hlt)
      have ck2 := (BX.out.cell (p := ⟨b, off + k, none⟩) hbl).trans ck
      have TR := Lib.hid (rtrim_any _ _ wx.drew ((hN.below BX.out).below (Below.refl _ _).drew))
      obtain ⟨L, eL⟩ : ∃ L, L = (rows.getD k []).length := ⟨_, rfl⟩
      rw [← eL] at ck2 TR
      obtain ⟨r, er⟩ : ∃ r, r = M.trim (rows.getD k []) := ⟨_, rfl⟩
      rw [← er] at TR
      have ER := Lib.hid er
      clear ck hN hcells eL er
      by_cases hrl : r.length ≤ T + 1
      · have hd1 : ¬ T + 1 < r.length := by omega
        have hd2 : ¬ (T : Int) + 1 < (r.length : Nat) := by omega
        have HRL := Lib.hid hrl
        clear hrl
        go_wp2_with fail
        go_region_held3 (fun W' => W'.cell? ⟨W.heap.size, 0, none⟩ = some (.int .i64 (T : Int)))
          (first | exact s0 | exact r0 | go_keep)
          (first | (go_at_call 45; (with_reducible refine TR.out.mono ?_); rintro e w2 ⟨u, rfl, hu, hb⟩; obtain ⟨Au2, cu2, rfl⟩ := nums_slice' hu; have s0 := (hb.cell (p := ⟨W.heap.size, 0, none⟩) hs2).trans r0))
        have HB2 := Lib.hid (bnext HB.out (below_of_drew6 hb))
        clear hu hb r0 r1 r2
        go_wp2_with fail
        go_roundw
        case rel => exact ⟨k + 1, by omega, by go_num, fun i hi => by
          rcases (show i < k ∨ i = k by omega) with h | rfl
          · exact HS.out i h
          · rw [← ER.out]; exact HRL.out, HB2.out⟩
        case measure => simp [intOf]; omega
      · have hd1 : T + 1 < r.length := by omega
        have hd2 : (T : Int) + 1 < (r.length : Nat) := by omega
        clear hrl
        go_wp2_with fail
        go_region_held3 (fun W' => W'.cell? ⟨W.heap.size, 0, none⟩ = some (.int .i64 (T : Int)))
          (first | exact s0 | exact r0 | go_keep)
          (first | (go_at_call 45; (with_reducible refine TR.out.mono ?_); rintro e w2 ⟨u, rfl, hu, hb⟩; obtain ⟨Au2, cu2, rfl⟩ := nums_slice' hu; have s0 := (hb.cell (p := ⟨W.heap.size, 0, none⟩) hs2).trans r0))
        have BX2 := Lib.hid (bnext BX.out (below_of_drew6 hb))
        clear hu hb r0 r1 r2
        go_wp2_with fail
        refine (alive6_any _).mono ?_
        rintro e w9 ⟨rfl, hb⟩
        have B9 := Lib.hid (bnext BX2.out hb)
        clear hb
        go_wp2_with fail
        go_ret
        exact ⟨rfl, B9.out⟩
    · obtain rfl : k = n := by omega
      have HSS := Lib.hid (show ∀ i, i < xs.length → (M.trim (rows.getD i [])).length ≤ T + 1 by rw [← EN.out]; exact HS.out)
      clear q0 q1 q2 hs1 HS
      go_wp2_with fail
      refine (QU.out _ BX.out).mono ?_
      rintro e w2 ⟨hb, ⟨h, _⟩ | ⟨_, u1, rfl, ho1⟩⟩
      case inl => exact absurd rfl h
      have B2 := Lib.hid (bnext BX.out hb)
      have s0 := (hb.cell (p := ⟨W.heap.size, 0, none⟩) hs2).trans r0
      have s1 := (hb.cell (p := ⟨W.heap.size, 1, none⟩) hs2).trans r1
      have s2 := (hb.cell (p := ⟨W.heap.size, 2, none⟩) hs2).trans r2
      have hs3 : W.heap.size < w2.heap.size := Nat.lt_of_lt_of_le hs2 hb.size
      obtain ⟨Au, cu, rfl⟩ := own_slice6' ho1
      have J2 := Lib.hid (JO.out _ B2.out)
      clear hb ho1 r0 r1 r2 hs2 QU JO
      go_wp2_with fail
      refine J2.out.mono ?_
      rintro e w3 ⟨hb, ⟨h, _⟩ | ⟨_, hJ⟩⟩
      case inl => exact absurd rfl h
      have B3 := Lib.hid (bnext B2.out hb)
      have q0 := (hb.cell (p := ⟨W.heap.size, 0, none⟩) hs3).trans s0
      have q1 := (hb.cell (p := ⟨W.heap.size, 1, none⟩) hs3).trans s1
      have q2 := (hb.cell (p := ⟨W.heap.size, 2, none⟩) hs3).trans s2
      have hs4 : W.heap.size < w3.heap.size := Nat.lt_of_lt_of_le hs3 hb.size
      clear hb s0 s1 s2 hs3
      by_cases hq : l = []
      case neg =>
        have hql : 0 < l.length := by
          cases l with
          | nil => exact absurd rfl hq
          | cons a l => simp
        have hno : ∀ F, ¬ M.PairOf p (T + 1) xs rows F := fun F hF => hq (HAG.out.2 (hF.agreed (by omega)))
        rcases hJ with ⟨F, _, hF, _⟩ | ⟨_, rfl⟩
        · exact absurd hF (hno F)
        obtain ⟨N, eN⟩ : ∃ N, N = l.length := ⟨_, rfl⟩
        rw [← eN] at hql ⊢
        have hql2 : (0 : Int) < (N : Nat) := by omega
        clear hno hq eN
        go_wp2_with fail
        refine (alive6_any _).mono ?_
        rintro e w9 ⟨rfl, hb⟩
        have B9 := Lib.hid (bnext B3.out hb)
        clear hb
        go_wp2_with fail
        go_ret
        exact ⟨rfl, B9.out⟩
      subst hq
      have hag := HAG.out.1 rfl
      obtain ⟨F0, hF0⟩ := M.held_exists HIP.out HOK.out.nod HOK.out.wx (by rw [← EN.out]; exact HLN.out) (fun i hi => (HOK.out.row i hi).2) HSS.out hag
      rcases hJ with ⟨F, u3, hF, rfl, hm3⟩ | ⟨hno, _⟩
      case inr => exact absurd hF0 (hno F0)
      have HF := Lib.hid hF
      have HM3 := Lib.hid hm3
      obtain ⟨A3, c3, rfl, _⟩ := mat_view6 hm3
      obtain ⟨b, off, rfl, hxs⟩ := nums_rest (d := d) (by have := HV.out.below B3.out; rwa [EN.out] at this) (by rw [← EN.out]; exact hdl)
      obtain ⟨b2, off2, rfl, hms⟩ := mat_rest (d := d) (by have := HV2.out.below B3.out; rwa [← RN.out] at this) (by rw [RN.out]; exact hdl)
      rw [← EN.out] at hxs
      rw [RN.out] at hms
      have hJ3 : Calls Try.prog 42 #[.int .u64 p, .int .i64 T, .slice (some ⟨b, off + d, none⟩) (k - d) (cap - d), .slice (some ⟨b2, off2 + d, none⟩) (k - d) (cap2 - d)] w3.drew fun e w' => ∃ A4 c4, e = .returned (.tuple #[.slice A4 (T + 1) c4, .int .i64 0]) ∧ Mat w' (.slice A4 (T + 1) c4) (M.tabMM (T + 1) (T + 1) F) ∧ Below w3.drew.heap.size w3.drew w' :=
        (JS.out w3.drew _ _ (hxs.below (Below.refl _ _).drew) (hms.below (Below.refl _ _).drew)).mono (by
          rintro e w4 ⟨hb, ⟨h, _⟩ | ⟨_, ⟨G, u4, hG, rfl, hm4⟩ | ⟨hno, _⟩⟩⟩
          · exact absurd rfl h
          · have hGF : M.tabMM (T + 1) (T + 1) G = M.tabMM (T + 1) (T + 1) F := M.tabMM_congr fun i hi k hk => hG.unique HIP.out HOD.out.nod HOD.out.wx (by rw [List.length_drop]; have := HX.out; omega) (HF.out.drop d) i k hi hk
            rw [hGF] at hm4
            obtain ⟨A4, c4, rfl, _⟩ := mat_view6 hm4
            rw [M.tabMM_len] at hm4 ⊢
            exact ⟨A4, c4, rfl, hm4, hb⟩
          · exact absurd (HF.out.drop d) (hno F))
      have J3 := Lib.hid hJ3
      clear hag hF0 hF hm3 hxs hms JS hJ3
      go_wp2_with fail
      go_region_held3 (fun W' => W'.cell? ⟨W.heap.size, 0, none⟩ = some (.int .i64 (T : Int)) ∧ W'.cell? ⟨W.heap.size, 1, none⟩ = some (.slice (some ⟨b, off, none⟩) k cap) ∧ W'.cell? ⟨W.heap.size, 2, none⟩ = some (.slice (some ⟨b2, off2, none⟩) k cap2))
        (first | exact ⟨s0, s1, s2⟩ | exact ⟨q0, q1, q2⟩ | go_keep)
        (first | (go_at_call 42; (with_reducible refine J3.out.mono ?_); rintro e w4 ⟨A4, c4, rfl, hm4, hb⟩; have s0 := (hb.cell (p := ⟨W.heap.size, 0, none⟩) hs4).trans q0; have s1 := (hb.cell (p := ⟨W.heap.size, 1, none⟩) hs4).trans q1; have s2 := (hb.cell (p := ⟨W.heap.size, 2, none⟩) hs4).trans q2))
      have hb4 : Below w3.heap.size w3 w4 := below_of_drew6 hb
      have B4 := Lib.hid (bnext B3.out hb4)
      have hs5 : W.heap.size < w4.heap.size := Nat.lt_of_lt_of_le hs4 hb4.size
      have HM4 := Lib.hid (HM3.out.below hb4)
      clear hb hb4 q0 q1 q2 hs4
      have SM := Lib.hid (rsame6_any _ _ _ w4 (by rw [M.tabMM_len]; omega) HM4.out hm4)
      clear hm4
      go_wp2_with fail
      refine SM.out.mono ?_
      rintro e w5 ⟨rfl, hb⟩
      have B5 := Lib.hid (bnext B4.out hb)
      have q0 := (hb.cell (p := ⟨W.heap.size, 0, none⟩) hs5).trans s0
      have q1 := (hb.cell (p := ⟨W.heap.size, 1, none⟩) hs5).trans s1
      have q2 := (hb.cell (p := ⟨W.heap.size, 2, none⟩) hs5).trans s2
      have hs6 : W.heap.size < w5.heap.size := Nat.lt_of_lt_of_le hs5 hb.size
      have HM5 := Lib.hid (HM4.out.below hb)
      have hPO : M.POk p (T + 1) (M.tabMM (T + 1) (T + 1) F) := M.POk.tab HF.out.sym HF.out.lt
      have HRC := Lib.hid (show ∀ x, x < p → M.rowC p T (M.tabMM (T + 1) (T + 1) F) x = 0 from fun x hx => by unfold M.rowC; rw [if_pos (M.pchk_ok HIP.out hT hPO), if_neg (by omega)])
      clear hb s0 s1 s2 hs5 hPO SM
      go_wp2_with fail
      go_loopw [135] (fun t wr => ∃ k2 : Nat, k2 ≤ k ∧ t = .int .i64 k2 ∧ Below w5.heap.size w5 wr) (fun t _ => k - (intOf t).toNat)
      case atStart => exact ⟨0, by omega, rfl, Below.refl _ _⟩
      case round =>
        obtain ⟨j, hj, rfl, hB⟩ := hrel
        have HB5 := Lib.hid hB
        have r0 := (hB.cell (p := ⟨W.heap.size, 0, none⟩) hs6).trans q0
        have r2 := (hB.cell (p := ⟨W.heap.size, 2, none⟩) hs6).trans q2
        have hs7 : W.heap.size < wr.heap.size := Nat.lt_of_lt_of_le hs6 hB.size
        obtain ⟨wy, ewy⟩ : ∃ x, x = wr := ⟨_, rfl⟩
        rw [← ewy] at HB5 r0 r2 hs7 ⊢
        have BY := Lib.hid (bnext B5.out HB5.out)
        clear hB ewy
        by_cases hlt : j < k
        · obtain ⟨bx, ox, ex, hbx, hcx⟩ := HCX.out (by rw [← EN.out]; omega)
          simp only [Option.some.injEq, Addr.mk.injEq, and_true] at ex
          obtain ⟨rfl, rfl⟩ := ex
          obtain ⟨bm, om, em, hbl, hcells⟩ := HM.out (by rw [RN.out]; omega)
          simp only [Option.some.injEq, Addr.mk.injEq, and_true] at em
          obtain ⟨rfl, rfl⟩ := em
          obtain ⟨Au, cu, ck, hN, _⟩ := hcells j (by rw [RN.out]; exact hlt)
          have c1 := (BY.out.cell (p := ⟨b, off + j, none⟩) hbx).trans (hcx j (by rw [← EN.out]; exact hlt))
          have c2 := (BY.out.cell (p := ⟨b2, off2 + j, none⟩) hbl).trans ck
          have hxp := M.within_mem HOK.out.wx (show j < xs.length by rw [← EN.out]; exact hlt)
          have HM6 := Lib.hid (HM5.out.below HB5.out)
          have RO := Lib.hid (prow_any p T _ _ (xs.getD j 0) wy (by omega) (by omega) (by omega) (by omega) HM6.out)
          rw [HRC.out _ hxp, Int.toNat_natCast, M.rowp_tab, HF.out.row j (by rw [← EN.out]; exact hlt)] at RO
          have HNJ := Lib.hid (hN.below BY.out)
          obtain ⟨x, ex⟩ : ∃ x, x = xs.getD j 0 := ⟨_, rfl⟩
          rw [← ex] at c1 RO
          obtain ⟨L, eL⟩ : ∃ L, L = (rows.getD j []).length := ⟨_, rfl⟩
          rw [← eL] at c2 HNJ
          have TR := Lib.hid fun (w : World) (b : Below wy.heap.size wy w) => rtrim_any _ _ w (HNJ.out.below b)
          obtain ⟨r, er⟩ : ∃ r, r = M.trim (rows.getD j []) := ⟨_, rfl⟩
          rw [← er] at RO TR
          have lb2 : b2 < wy.heap.size := by have := BY.out.size; omega
          have hjk : (j : Int) < (k : Nat) := by omega
          clear hcx hcells ck hN ex eL er hxp
          go_wp2_with fail
          refine RO.out.mono ?_
          rintro e w6 ⟨hb, ⟨h, _⟩ | ⟨_, u6, rfl, hn6⟩⟩
          case inl => exact absurd rfl h
          have HB6 := Lib.hid (bnext HB5.out hb)
          have s2 := (hb.cell (p := ⟨W.heap.size, 2, none⟩) hs7).trans r2
          have d2 := (hb.cell (p := ⟨b2, off2 + j, none⟩) lb2).trans c2
          have TR6 := Lib.hid (TR.out _ hb)
          have HN6 := Lib.hid hn6
          obtain ⟨A6, c6, rfl⟩ := nums_slice' hn6
          clear hb hn6 r0 r2 c1 c2
          go_wp2_with fail
          refine TR6.out.mono ?_
          rintro e w7 ⟨u7, rfl, hn7, hb⟩
          have HB7 := Lib.hid (bnext HB6.out hb)
          have SM7 := Lib.hid (same_any _ _ _ w7 (HN6.out.below hb) hn7)
          obtain ⟨A7, c7, rfl⟩ := nums_slice' hn7
          clear hb hn7
          go_wp2_with fail
          refine SM7.out.mono ?_
          rintro e w8 ⟨rfl, hb⟩
          have HB8 := Lib.hid (bnext HB7.out hb)
          clear hb
          go_wp2_with fail
          go_roundw
          case rel => exact ⟨j + 1, by omega, by go_num, HB8.out⟩
          case measure => simp [intOf]; omega
        · obtain rfl : j = k := by omega
          go_wp2_with fail
          refine (alive6_any _).mono ?_
          rintro e w9 ⟨rfl, hb⟩
          have B9 := Lib.hid (bnext BY.out hb)
          clear hb
          go_wp2_with fail
          go_ret
          exact ⟨rfl, B9.out⟩
theorem walk (W : World) (p : Nat) (hp : p < 18446744073709551616) (t : Int) (v : Value) (xs : List Nat) (v2 : Value) (rows : List (List Nat)) (h1 : -9223372036854775808 ≤ t) (h2 : t ≤ 9223372036854775807) (hv : Nums W v xs) (hv2 : Mat W v2 rows) :
    Calls Try.prog 12 #[.int .u64 p, .agg #[.int .i64 t, v, v2]] W fun e W' => e = .returned (.bool true) ∧ Below W.heap.size W W' := by
  by_cases hb : M.bnd p t = 0
  · obtain ⟨T, rfl, hT, hi⟩ := M.bnd_zero hb
    by_cases hr : M.rowsE p xs rows = 0
    · by_cases hl : xs.length < T + 1
      · exact few W p T hi hT v xs v2 rows hv hv2 (M.rowsE_zero hr) hl
      · exact good W p T hi hT v xs v2 rows hv hv2 (M.rowsE_zero hr) (by omega)
    · exact early2 W p hp T hT v xs v2 rows hv hv2 hb hr
  · exact early1 W p hp t v xs v2 rows h1 h2 hv hv2 hb
end pairHeldW
end Go.Proofs.Ytglehjcohdjhoaa
