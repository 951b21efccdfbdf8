/-
  Package pair of the program: what is changed number by number, for Lift.
-/
import Derived.Test.YtglehjcohdjhoaaPp5
namespace Go.Proofs.Ytglehjcohdjhoaa
open Go.RowKit
set_option linter.unusedVariables false
set_option maxRecDepth 100000

set_option maxHeartbeats 2000000 in
theorem changedLift (p n : Nat) (D : Nat → Nat → Nat) (v : Value) (m : List (List Nat)) (b1 b2 b3 : Nat) (w : World) (h3 : 3 ≤ p) (hp : p ≤ 65537) (hn : 0 < n) (hn4 : n ≤ 4) (hm : M.POk p n m) (hv : Mat w v m) (hD : ∀ i k, D i k < p)
    (hop : ∀ (i k : Nat) (W : World), i < n → k < n → Below w.heap.size w W → Calls Try.prog 69 #[.int .i64 i, .int .i64 k, .pointer (some ⟨b1, 0, none⟩), .pointer (some ⟨b2, 0, none⟩), .pointer (some ⟨b3, 0, none⟩)] W fun e W' => e = .returned (.int .u64 (D i k : Nat)) ∧ Below W.heap.size W W') :
    Calls Try.prog 66 #[.int .u64 p, v, .func (.func 69) #[] #[.pointer (some ⟨b1, 0, none⟩), .pointer (some ⟨b2, 0, none⟩), .pointer (some ⟨b3, 0, none⟩)]] w fun e w' => ∃ v', e = .returned v' ∧ Mat w' v' (M.tabMM n n fun i k => (M.el m i k + D i k) % p) ∧ Below w.heap.size w w' := by
  have hud : ∀ b : Bool, undef ≠ Value.bool b := fun b h => by cases h
  obtain ⟨A, cap, rfl, _⟩ := mat_view6 hv
  have hml := hm.len
  rw [hml] at hv ⊢
  have hrw := (mat_row hv).2
  obtain ⟨b, off, rfl, hbl, hcells⟩ := hrw (by omega)
  have HC := Lib.hid hcells
  have HML := Lib.hid hml
  have HRW := Lib.hid hm.rows
  have HEL := Lib.hid fun i k hi hk => hm.el_lt (i := i) (k := k) hi hk
  have HOP := Lib.hid hop
  have HD := Lib.hid hD
  obtain ⟨S, eS⟩ : ∃ S : Nat → Nat → Nat, S = fun i k => (M.el m i k + D i k) % p := ⟨_, rfl⟩
  rw [← eS]
  have HS := Lib.hid eS
  obtain ⟨cs, hcs, hcz, hmk⟩ := make6_rows n (by omega)
  obtain ⟨bB, eB⟩ : ∃ B, B = w.heap.size := ⟨_, rfl⟩
  obtain ⟨W0, eW0⟩ : ∃ W0, W0 = w.alloc (.cells cs 30) := ⟨_, rfl⟩
  have hB0 : W0.heap[bB]? = some (.cells cs 30 (0, 0)) := by rw [eW0, eB]; exact heap_alloc_new w _
  have HL0 := Lib.hid (show LayF W0 w.heap.size bB n 0 (fun _ => 0) (chgK S 0 0) from ⟨by omega, ⟨cs, hB0, hcs, fun i hi => absurd hi (by omega), fun i _ hi => hcz i hi⟩, fun i hi => absurd hi (by omega), fun i hi => absurd hi (by omega), fun i j hi => absurd hi (by omega)⟩)
  have HB0 := Lib.hid (show Below w.heap.size w W0 by rw [eW0]; exact balloc w _)
  have EW0 := Lib.hid eW0
  have EB := Lib.hid eB
  obtain ⟨cu, hmu, hmurow⟩ := make6_u64 n (by omega)
  have HMR := Lib.hid hmurow
  clear hmurow eW0 eB hB0 hcs hcz hv hm hrw hcells hml eS hop hD
  go_enter Try.func66, Try.ntmps66
  go_wp2_with fail
  rw [← EW0.out]
  simp only [← EB.out]
  clear hmk
  go_loopw [17] (fun t wr => ∃ i : Nat, i ≤ n ∧ t = .int .i64 i ∧ (∃ G, LayF wr w.heap.size bB n i G (chgK S i 0)) ∧ Below w.heap.size w wr) (fun t _ => n - (intOf t).toNat)
  case atStart => exact ⟨0, by omega, rfl, ⟨_, HL0.out⟩, HB0.out⟩
  case round =>
    obtain ⟨i, hi, rfl, ⟨G, hLy⟩, hB⟩ := hrel
    have HLy := Lib.hid hLy
    have HB := Lib.hid hB
    clear hLy hB HL0 HB0
    by_cases hlt : i < n
    · obtain ⟨Au, cu2, ck, hN, hrow⟩ := HC.out i (by rw [HML.out]; exact hlt)
      rw [HRW.out i hlt] at ck hN hrow
      obtain ⟨g2, o2, rfl, hg2, hcel⟩ := hrow (by omega)
      have HCE := Lib.hid hcel
      have ck2 := (HB.out.cell (p := ⟨b, off + i, none⟩) hbl).trans ck
      have cB := HLy.out.cell hlt
      have fB := HLy.out.free i
      have lB := HLy.out.lt
      have nB : bB ≠ wr.heap.size := by omega
      have nB2 : wr.heap.size ≠ bB := by omega
      have HP := Lib.hid (HLy.out.push hlt HB.out.size HMR.out (fun j _ => chgK_zero S i j))
      have HBB := Lib.hid (HLy.out.baseB)
      have BX := Lib.hid ((HB.out.setCell (p := ⟨bB, i, none⟩) HBB.out (.slice (some ⟨wr.heap.size, 0, none⟩) n n)).alloc (by simp; exact HB.out.size) (.cells cu 22))
      obtain ⟨G2, eG2⟩ : ∃ G2, G2 = (fun j => if j = i then wr.heap.size else G j) := ⟨_, rfl⟩
      rw [← eG2] at HP
      have hg2w : g2 < w.heap.size := hg2
      clear ck hN hrow hcel eG2
      go_wp2_with fail
      go_loopw [30] (fun t wx => ∃ k : Nat, k ≤ n ∧ t = .int .i64 k ∧ LayF wx w.heap.size bB n (i + 1) G2 (chgK S i k) ∧ Below w.heap.size w wx) (fun t _ => n - (intOf t).toNat)
      case atStart => exact ⟨0, by omega, rfl, HP.out, BX.out⟩
      case round =>
        obtain ⟨k, hk, rfl, hLx, hBx⟩ := hrel
        obtain ⟨wx, ewx⟩ : ∃ x, x = wr := ⟨_, rfl⟩
        rw [← ewx] at hLx hBx ⊢
        clear ewx
        have HLx := Lib.hid hLx
        have HBx := Lib.hid hBx
        clear hLx hBx HP BX ck2 cB fB lB nB nB2
        by_cases hlk : k < n
        · have ce := (HBx.out.cell (p := ⟨g2, o2 + k, none⟩) hg2w).trans (HCE.out k hlk)
          have hx := HEL.out i k hlt hlk
          have hst := fun a b => chgK_step S i k a b
          have hd := HD.out i k
          have hSik : S i k = (M.el m i k + D i k) % p := by rw [HS.out]
          obtain ⟨x, ex⟩ : ∃ x, x = M.el m i k := ⟨_, rfl⟩
          rw [← ex] at ce hx hSik
          obtain ⟨d, ed⟩ : ∃ d, d = D i k := ⟨_, rfl⟩
          have HO := Lib.hid fun (W : World) (b : Below w.heap.size w W) => HOP.out i k W hlt hlk b
          rw [← ed] at HO hd hSik
          obtain ⟨y, ey⟩ : ∃ y, y = S i k := ⟨_, rfl⟩
          rw [← ey] at hst hSik
          have HST := Lib.hid hst
          have t1 := HLx.out.top_cell (i := i) (by omega)
          have hin : (i : Int) < (n : Nat) := by omega
          have hkn : (k : Int) < (n : Nat) := by omega
          have hGlt : ∀ (W : World), LayF W w.heap.size bB n (i + 1) G2 (chgK S i k) → W.cell? ⟨G2 i, k, none⟩ = some (.int .u64 (chgK S i k i k : Nat)) ∧ W.frozen? ⟨G2 i, k, none⟩ = false := fun W h => ⟨(h.row i (by omega)).cell hlk, (h.row i (by omega)).free k⟩
          have c1 := (HLx.out.row i (by omega)).cell hlk
          have f1 := (HLx.out.row i (by omega)).free k
          have hbg := HLx.out.baseG i (by omega)
          have lBx := HLx.out.lt
          have lGx := (HLx.out.row i (by omega)).lt
          have hwr : IntKind.u64.wrap ((x : Int) + (d : Int)) = ((x + d : Nat) : Int) := by rw [IntKind.wrap_u64]; omega
          have HMD := Lib.hid (show (((x : Int) + (d : Int)) % (p : Int)) = (y : Nat) by rw [hSik]; simp)
          have hp0 : ((p : Int) == 0) = false := by simp; omega
          clear hst ex ed ey hSik
          go_wp2_with fail
          go_region_with (first | (go_at_call 69; refine (HO.out _ (by first | exact HBx.out | exact HBx.out.drew)).mono ?_; rintro e w3 ⟨rfl, hb3⟩; have t3 : w3.cell? ⟨bB, i, none⟩ = some (.slice (some ⟨G2 i, 0, none⟩) n n) := (hb3.cell (p := ⟨bB, i, none⟩) lBx).trans t1; have d3 : w3.cell? ⟨G2 i, k, none⟩ = some (.int .u64 (chgK S i k i k : Nat)) := (hb3.cell (p := ⟨G2 i, k, none⟩) lGx).trans c1; have f3 : w3.frozen? ⟨G2 i, k, none⟩ = false := (hb3.frozen (p := ⟨G2 i, k, none⟩) lGx).trans f1))
          all_goals
            have hb4 : Below wx.heap.size wx w3 := by first | exact hb3 | exact below_of_drew6 hb3
            have HL4 := Lib.hid (((HLx.out.below hb4).set (i := i) (j := k) (by omega) hlk y).congr fun a _ b _ => HST.out a b)
            have HB4 := Lib.hid ((bnext HBx.out hb4).setCell (p := ⟨G2 i, k, none⟩) hbg (.int .u64 (y : Nat)))
            clear hb3 hb4
            go_wp2_with fail
            go_roundw
            case rel => exact ⟨k + 1, by omega, by go_num, by rw [HMD.out]; exact HL4.out, by rw [HMD.out]; exact HB4.out⟩
            case measure => simp [intOf]; omega
        · obtain rfl : k = n := by omega
          go_wp2_with fail
          go_roundw
          case rel => exact ⟨i + 1, by omega, by go_num, ⟨_, HLx.out.congr fun a _ b hb => chgK_next S i a b hb⟩, HBx.out⟩
          case measure => simp [intOf]; omega
    · obtain rfl : i = n := by omega
      have HMAT := Lib.hid ((HLy.out.done.congr (F' := S) (fun a ha b hb => by unfold chgK; rw [if_pos (by omega)])).mat (Nat.le_refl _) (by omega) (by omega) (fun a ha b hb => by
        have : S a b < p := by rw [HS.out]; exact Nat.mod_lt _ (by omega)
        omega))
      go_wp2_with fail
      go_ret
      exact ⟨_, rfl, HMAT.out, HB.out⟩
end Go.Proofs.Ytglehjcohdjhoaa
