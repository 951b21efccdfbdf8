/-
  Package pair of the program: rows under construction; what is padded; what is changed number by number.
-/
import Derived.Test.YtglehjcohdjhoaaPr9
import Derived.Test.YtglehjcohdjhoaaPp2
import Derived.Test.YtglehjcohdjhoaaLF
namespace Go.Proofs.Ytglehjcohdjhoaa
open Go.RowKit
set_option linter.unusedVariables false
set_option maxRecDepth 100000

/-- an own matrix under construction: k of its n rows are laid, and hold F -/
structure LayF (w : World) (base B n k : Nat) (G : Nat → Nat) (F : Nat → Nat → Nat) : Prop where
  baseB : base ≤ B
  top : ∃ cs, w.heap[B]? = some (.cells cs 30 (0, 0)) ∧ cs.size = n ∧ (∀ i, i < k → cs[i]? = some (.slice (some ⟨G i, 0, none⟩) n n)) ∧ ∀ i, k ≤ i → i < n → cs[i]? = some (.slice none 0 0)
  row : ∀ i, i < k → Row w (G i) n (F i)
  baseG : ∀ i, i < k → base ≤ G i
  inj : ∀ i j, i < k → j < k → G i = G j → i = j
section
variable {w w' : World} {base B n k : Nat} {G : Nat → Nat} {F F' : Nat → Nat → Nat}
theorem LayF.cell (h : LayF w base B n k G F) (hk : k < n) : w.cell? ⟨B, k, none⟩ = some (.slice none 0 0) := by
  obtain ⟨cs, h1, _, _, h4⟩ := h.top; rw [cell_of_row w B k cs _ (0, 0) h1]; exact h4 k (Nat.le_refl _) hk
theorem LayF.top_cell (h : LayF w base B n k G F) {i : Nat} (hi : i < k) : w.cell? ⟨B, i, none⟩ = some (.slice (some ⟨G i, 0, none⟩) n n) := by
  obtain ⟨cs, h1, _, h3, _⟩ := h.top; rw [cell_of_row w B i cs _ (0, 0) h1]; exact h3 i hi
theorem LayF.free (h : LayF w base B n k G F) (j : Nat) : w.frozen? ⟨B, j, none⟩ = false := by
  obtain ⟨cs, h1, _⟩ := h.top; exact frozen_of_row w B j cs _ h1
theorem LayF.lt (h : LayF w base B n k G F) : B < w.heap.size := by obtain ⟨cs, h1, _⟩ := h.top; exact lt_of_block h1
theorem LayF.ne (h : LayF w base B n k G F) {i : Nat} (hi : i < k) : G i ≠ B := by
  intro e
  obtain ⟨ds, h1, _⟩ := h.top
  obtain ⟨es, e1, _⟩ := h.row i hi
  rw [e, h1] at e1
  simp at e1
theorem LayF.congr (h : LayF w base B n k G F) (e : ∀ i, i < k → ∀ j, j < n → F i j = F' i j) : LayF w base B n k G F' := ⟨h.baseB, h.top, fun i hi => (h.row i hi).congr (e i hi), h.baseG, h.inj⟩
theorem LayF.same (h : LayF w base B n k G F) (e : ∀ g, g < w.heap.size → w'.heap[g]? = w.heap[g]?) : LayF w' base B n k G F := by
  obtain ⟨cs, h1, h2⟩ := h.top
  exact ⟨h.baseB, ⟨cs, (e B h.lt).trans h1, h2⟩, fun i hi => (h.row i hi).same (e _ (h.row i hi).lt), h.baseG, h.inj⟩
theorem LayF.heap (h : LayF w base B n k G F) (e : w'.heap = w.heap) : LayF w' base B n k G F := h.same fun g _ => by rw [e]
theorem LayF.below (h : LayF w base B n k G F) (hb : Below w.heap.size w w') : LayF w' base B n k G F := h.same fun g hg => hb.block g hg
/-- one row more -/
theorem LayF.push (h : LayF w base B n k G F) (hk : k < n) (hb : base ≤ w.heap.size) {cs : Array Value} (hr : ∀ W : World, Row (W.alloc (.cells cs 22)) W.heap.size n fun _ => 0) (h0 : ∀ j, j < n → F k j = 0) :
    LayF ((w.setCell ⟨B, k, none⟩ (.slice (some ⟨w.heap.size, 0, none⟩) n n)).alloc (.cells cs 22)) base B n (k + 1) (fun i => if i = k then w.heap.size else G i) F := by
  have hB := h.lt
  obtain ⟨ds, h1, h2, h3, h4⟩ := h.top
  have hsz : (w.setCell ⟨B, k, none⟩ (.slice (some ⟨w.heap.size, 0, none⟩) n n)).heap.size = w.heap.size := by simp
  have hrow : ∀ i, i < k → Row ((w.setCell ⟨B, k, none⟩ (.slice (some ⟨w.heap.size, 0, none⟩) n n)).alloc (.cells cs 22)) (G i) n (F i) := fun i hi => ((h.row i hi).other (h.ne hi) _).alloc _
  have hr2 := hr (w.setCell ⟨B, k, none⟩ (.slice (some ⟨w.heap.size, 0, none⟩) n n))
  rw [hsz] at hr2
  refine ⟨h.baseB, ⟨_, (Below.heap_alloc _ _ B (by rw [hsz]; exact hB)).trans (heap_setCell_same w B k ds _ _ h1), by simpa using h2, fun i hi => ?_, fun i hi hin => ?_⟩, fun i hi => ?_, fun i hi => ?_, fun i j hi hj e => ?_⟩
  · by_cases e : i = k
    · subst e; rw [Array.getElem?_setIfInBounds_self_of_lt (by omega)]; simp
    · rw [Array.getElem?_setIfInBounds_ne (Ne.symm e), h3 i (by omega)]; simp [e]
  · rw [Array.getElem?_setIfInBounds_ne (by omega), h4 i (by omega) hin]
  · by_cases e : i = k
    · subst e; simp only [if_true]; exact hr2.congr fun j hj => (h0 j hj).symm
    · simp only [if_neg e]; exact hrow i (by omega)
  · by_cases e : i = k
    · simp only [if_pos e]; exact hb
    · simp only [if_neg e]; exact h.baseG i (by omega)
  · by_cases e1 : i = k <;> by_cases e2 : j = k
    · omega
    · simp only [if_pos e1, if_neg e2] at e
      have := (h.row j (by omega)).lt
      omega
    · simp only [if_neg e1, if_pos e2] at e
      have := (h.row i (by omega)).lt
      omega
    · simp only [if_neg e1, if_neg e2] at e
      exact h.inj i j (by omega) (by omega) e
/-- one number is stored -/
theorem LayF.set (h : LayF w base B n k G F) {i j : Nat} (hi : i < k) (hj : j < n) (x : Nat) :
    LayF (w.setCell ⟨G i, j, none⟩ (.int .u64 (x : Nat))) base B n k G fun a b => if a = i ∧ b = j then x else F a b := by
  obtain ⟨ds, h1, h2⟩ := h.top
  refine ⟨h.baseB, ⟨ds, (Below.heap_setCell w ⟨G i, j, none⟩ _ B (fun e => h.ne hi e.symm)).trans h1, h2⟩, fun a ha => ?_, h.baseG, h.inj⟩
  by_cases e : a = i
  · subst e
    refine ((h.row a ha).set hj x).congr fun b hb => ?_
    by_cases e2 : b = j
    · simp [e2]
    · simp [e2]
  · refine ((h.row a ha).other (fun e2 => e (h.inj a i ha hi e2)) _).congr fun b hb => ?_
    simp [e]
theorem LayF.done (h : LayF w base B n n G F) : MatO w base B n n G (fun _ => n) F := by
  obtain ⟨ds, h1, h2, h3, _⟩ := h.top
  exact ⟨h.baseB, ⟨ds, h1, h3⟩, h.row, fun i hi => ⟨h.baseG i hi, Nat.le_refl _⟩, h.inj⟩
end

/-- i rows are done, and k numbers of the next one -/
def chgK (F : Nat → Nat → Nat) (i k a b : Nat) : Nat := if a < i ∨ (a = i ∧ b < k) then F a b else 0
theorem chgK_step (F : Nat → Nat → Nat) (i k a b : Nat) : (if a = i ∧ b = k then F i k else chgK F i k a b) = chgK F i (k + 1) a b := by
  unfold chgK
  by_cases h : a = i ∧ b = k
  · obtain ⟨rfl, rfl⟩ := h
    rw [if_pos ⟨rfl, rfl⟩, if_pos (by omega)]
  · rw [if_neg h]
    by_cases h2 : a < i ∨ (a = i ∧ b < k)
    · rw [if_pos h2, if_pos (by omega)]
    · rw [if_neg h2, if_neg (by omega)]
theorem chgK_next {n : Nat} (F : Nat → Nat → Nat) (i a b : Nat) (hb : b < n) : chgK F i n a b = chgK F (i + 1) 0 a b := by
  unfold chgK
  by_cases h : a < i ∨ (a = i ∧ b < n)
  · rw [if_pos h, if_pos (by omega)]
  · rw [if_neg h, if_neg (by omega)]
theorem chgK_zero (F : Nat → Nat → Nat) (i b : Nat) : chgK F i 0 i b = 0 := by unfold chgK; rw [if_neg (by omega)]

set_option maxHeartbeats 1000000 in
theorem padded_any (v : Value) (zs : List Nat) (n : Nat) (w : World) (hl : zs.length ≤ n) (hn : n ≤ 1000) (hv : Nums w v zs) :
    Calls Try.prog 68 #[v, .int .i64 n] w (Gives w (M.tabM n fun i => zs.getD i 0)) := by
  have hz := hv.1
  obtain ⟨A, cap, rfl, _, _, hC⟩ := nums_view hv
  have HF := Lib.hid hC
  have HZ := Lib.hid hz
  obtain ⟨i0, hi0, hz0, hz1, hz2⟩ := info_parts infoU64
  clear hv hC hz
  go_enter Try.func68, Try.ntmps68
  go_wp2_with (first | (refine wpList_make_rowL _ rfl _ _ 30 rfl 22 i0 (.int .u64 0) Try.underlying30 hi0 hz0 hz1 rfl .i64 .i64 _ _ n rfl rfl rfl rfl (by rw [hz2]; omega) (by omega) ?_; intro rep hrep; have HREP := Lib.hid hrep; clear hrep) | (refine wpList_copy_nums rfl (.tmp 8) (.tmp 9) rfl A n cap w.heap.size zs rep HREP.out rfl rfl (World.alloc_heap_new w _) (HF.out.below (Nat.le_refl _) (balloc w _)) hl ?_; intro w1 hr hB1 hs1; have HR := Lib.hid hr; have HB1 := Lib.hid ((balloc w _).trans hB1); have HS1 := Lib.hid hs1; clear hr hB1 hs1))
  go_wp2_with fail
  go_ret
  refine ⟨_, rfl, HR.out.nums HS1.out (by omega) (fun i _ => ?_), HB1.out⟩
  by_cases h : i < zs.length
  · exact HZ.out _ (by rw [List.getD_eq_getElem?_getD, List.getElem?_eq_getElem h]; exact List.getElem_mem h)
  · simp [List.getD_eq_getElem?_getD, Nat.le_of_not_lt h]

set_option maxHeartbeats 2000000 in
theorem changedAdd (p n : Nat) (D : Nat → Nat → Nat) (v : Value) (m : List (List Nat)) (b1 : Nat) (w : World) (h3 : 3 ≤ p) (hp : p ≤ 65537) (hn : 0 < n) (hn4 : n ≤ 4) (hm : M.POk p n m) (hv : Mat w v m) (hD : ∀ i k, D i k < p)
    (hop : ∀ (i k : Nat) (W : World), i < n → k < n → Below w.heap.size w W → Calls Try.prog 67 #[.int .i64 i, .int .i64 k, .pointer (some ⟨b1, 0, none⟩)] W fun e W' => e = .returned (.int .u64 (D i k : Nat)) ∧ Below W.heap.size W W') :
    Calls Try.prog 66 #[.int .u64 p, v, .func (.func 67) #[] #[.pointer (some ⟨b1, 0, none⟩)]] w fun e w' => ∃ v', e = .returned v' ∧ Mat w' v' (M.tabMM n n fun i k => (M.el m i k + D i k) % p) ∧ Below w.heap.size w w' := by
  have hud : ∀ b : Bool, undef ≠ Value.bool b := fun b h => by cases h
  obtain ⟨A, cap, rfl, _⟩ := mat_view6 hv
  have hml := hm.len
  rw [hml] at hv ⊢
  have hrw := (mat_row hv).2
  obtain ⟨b, off, rfl, hbl, hcells⟩ := hrw (by omega)
  have HC := Lib.hid hcells
  have HML := Lib.hid hml
  have HRW := Lib.hid hm.rows
  have HEL := Lib.hid fun i k hi hk => hm.el_lt (i := i) (k := k) hi hk
  have HOP := Lib.hid hop
  have HD := Lib.hid hD
  obtain ⟨S, eS⟩ : ∃ S : Nat → Nat → Nat, S = fun i k => (M.el m i k + D i k) % p := ⟨_, rfl⟩
  rw [← eS]
  have HS := Lib.hid eS
  obtain ⟨cs, hcs, hcz, hmk⟩ := make6_rows n (by omega)
  obtain ⟨bB, eB⟩ : ∃ B, B = w.heap.size := ⟨_, rfl⟩
  obtain ⟨W0, eW0⟩ : ∃ W0, W0 = w.alloc (.cells cs 30) := ⟨_, rfl⟩
  have hB0 : W0.heap[bB]? = some (.cells cs 30 (0, 0)) := by rw [eW0, eB]; exact heap_alloc_new w _
  have HL0 := Lib.hid (show LayF W0 w.heap.size bB n 0 (fun _ => 0) (chgK S 0 0) from ⟨by omega, ⟨cs, hB0, hcs, fun i hi => absurd hi (by omega), fun i _ hi => hcz i hi⟩, fun i hi => absurd hi (by omega), fun i hi => absurd hi (by omega), fun i j hi => absurd hi (by omega)⟩)
  have HB0 := Lib.hid (show Below w.heap.size w W0 by rw [eW0]; exact balloc w _)
  have EW0 := Lib.hid eW0
  have EB := Lib.hid eB
  obtain ⟨cu, hmu, hmurow⟩ := make6_u64 n (by omega)
  have HMR := Lib.hid hmurow
  clear hmurow eW0 eB hB0 hcs hcz hv hm hrw hcells hml eS hop hD
  go_enter Try.func66, Try.ntmps66
  go_wp2_with fail
  rw [← EW0.out]
  simp only [← EB.out]
  clear hmk
  go_loopw [17] (fun t wr => ∃ i : Nat, i ≤ n ∧ t = .int .i64 i ∧ (∃ G, LayF wr w.heap.size bB n i G (chgK S i 0)) ∧ Below w.heap.size w wr) (fun t _ => n - (intOf t).toNat)
  case atStart => exact ⟨0, by omega, rfl, ⟨_, HL0.out⟩, HB0.out⟩
  case round =>
    obtain ⟨i, hi, rfl, ⟨G, hLy⟩, hB⟩ := hrel
    have HLy := Lib.hid hLy
    have HB := Lib.hid hB
    clear hLy hB HL0 HB0
    by_cases hlt : i < n
    · obtain ⟨Au, cu2, ck, hN, hrow⟩ := HC.out i (by rw [HML.out]; exact hlt)
      rw [HRW.out i hlt] at ck hN hrow
      obtain ⟨g2, o2, rfl, hg2, hcel⟩ := hrow (by omega)
      have HCE := Lib.hid hcel
      have ck2 := (HB.out.cell (p := ⟨b, off + i, none⟩) hbl).trans ck
      have cB := HLy.out.cell hlt
      have fB := HLy.out.free i
      have lB := HLy.out.lt
      have nB : bB ≠ wr.heap.size := by omega
      have nB2 : wr.heap.size ≠ bB := by omega
      have HP := Lib.hid (HLy.out.push hlt HB.out.size HMR.out (fun j _ => chgK_zero S i j))
      have HBB := Lib.hid (HLy.out.baseB)
      have BX := Lib.hid ((HB.out.setCell (p := ⟨bB, i, none⟩) HBB.out (.slice (some ⟨wr.heap.size, 0, none⟩) n n)).alloc (by simp; exact HB.out.size) (.cells cu 22))
      obtain ⟨G2, eG2⟩ : ∃ G2, G2 = (fun j => if j = i then wr.heap.size else G j) := ⟨_, rfl⟩
      rw [← eG2] at HP
      have hg2w : g2 < w.heap.size := hg2
      clear ck hN hrow hcel eG2
      go_wp2_with fail
      go_loopw [30] (fun t wx => ∃ k : Nat, k ≤ n ∧ t = .int .i64 k ∧ LayF wx w.heap.size bB n (i + 1) G2 (chgK S i k) ∧ Below w.heap.size w wx) (fun t _ => n - (intOf t).toNat)
      case atStart => exact ⟨0, by omega, rfl, HP.out, BX.out⟩
      case round =>
        obtain ⟨k, hk, rfl, hLx, hBx⟩ := hrel
        obtain ⟨wx, ewx⟩ : ∃ x, x = wr := ⟨_, rfl⟩
        rw [← ewx] at hLx hBx ⊢
        clear ewx
        have HLx := Lib.hid hLx
        have HBx := Lib.hid hBx
        clear hLx hBx HP BX ck2 cB fB lB nB nB2
        by_cases hlk : k < n
        · have ce := (HBx.out.cell (p := ⟨g2, o2 + k, none⟩) hg2w).trans (HCE.out k hlk)
          have hx := HEL.out i k hlt hlk
          have hst := fun a b => chgK_step S i k a b
          have hd := HD.out i k
          have hSik : S i k = (M.el m i k + D i k) % p := by rw [HS.out]
          obtain ⟨x, ex⟩ : ∃ x, x = M.el m i k := ⟨_, rfl⟩
          rw [← ex] at ce hx hSik
          obtain ⟨d, ed⟩ : ∃ d, d = D i k := ⟨_, rfl⟩
          have HO := Lib.hid fun (W : World) (b : Below w.heap.size w W) => HOP.out i k W hlt hlk b
          rw [← ed] at HO hd hSik
          obtain ⟨y, ey⟩ : ∃ y, y = S i k := ⟨_, rfl⟩
          rw [← ey] at hst hSik
          have HST := Lib.hid hst
          have t1 := HLx.out.top_cell (i := i) (by omega)
          have hin : (i : Int) < (n : Nat) := by omega
          have hkn : (k : Int) < (n : Nat) := by omega
          have hGlt : ∀ (W : World), LayF W w.heap.size bB n (i + 1) G2 (chgK S i k) → W.cell? ⟨G2 i, k, none⟩ = some (.int .u64 (chgK S i k i k : Nat)) ∧ W.frozen? ⟨G2 i, k, none⟩ = false := fun W h => ⟨(h.row i (by omega)).cell hlk, (h.row i (by omega)).free k⟩
          have c1 := (HLx.out.row i (by omega)).cell hlk
          have f1 := (HLx.out.row i (by omega)).free k
          have hbg := HLx.out.baseG i (by omega)
          have lBx := HLx.out.lt
          have lGx := (HLx.out.row i (by omega)).lt
          have hwr : IntKind.u64.wrap ((x : Int) + (d : Int)) = ((x + d : Nat) : Int) := by rw [IntKind.wrap_u64]; omega
          have HMD := Lib.hid (show (((x : Int) + (d : Int)) % (p : Int)) = (y : Nat) by rw [hSik]; simp)
          have hp0 : ((p : Int) == 0) = false := by simp; omega
          clear hst ex ed ey hSik
          go_wp2_with fail
          go_region_with (first | (go_at_call 67; refine (HO.out _ (by first | exact HBx.out | exact HBx.out.drew)).mono ?_; rintro e w3 ⟨rfl, hb3⟩; have t3 : w3.cell? ⟨bB, i, none⟩ = some (.slice (some ⟨G2 i, 0, none⟩) n n) := (hb3.cell (p := ⟨bB, i, none⟩) lBx).trans t1; have d3 : w3.cell? ⟨G2 i, k, none⟩ = some (.int .u64 (chgK S i k i k : Nat)) := (hb3.cell (p := ⟨G2 i, k, none⟩) lGx).trans c1; have f3 : w3.frozen? ⟨G2 i, k, none⟩ = false := (hb3.frozen (p := ⟨G2 i, k, none⟩) lGx).trans f1))
          all_goals
            have hb4 : Below wx.heap.size wx w3 := by first | exact hb3 | exact below_of_drew6 hb3
            have HL4 := Lib.hid (((HLx.out.below hb4).set (i := i) (j := k) (by omega) hlk y).congr fun a _ b _ => HST.out a b)
            have HB4 := Lib.hid ((bnext HBx.out hb4).setCell (p := ⟨G2 i, k, none⟩) hbg (.int .u64 (y : Nat)))
            clear hb3 hb4
            go_wp2_with fail
            go_roundw
            case rel => exact ⟨k + 1, by omega, by go_num, by rw [HMD.out]; exact HL4.out, by rw [HMD.out]; exact HB4.out⟩
            case measure => simp [intOf]; omega
        · obtain rfl : k = n := by omega
          go_wp2_with fail
          go_roundw
          case rel => exact ⟨i + 1, by omega, by go_num, ⟨_, HLx.out.congr fun a _ b hb => chgK_next S i a b hb⟩, HBx.out⟩
          case measure => simp [intOf]; omega
    · obtain rfl : i = n := by omega
      have HMAT := Lib.hid ((HLy.out.done.congr (F' := S) (fun a ha b hb => by unfold chgK; rw [if_pos (by omega)])).mat (Nat.le_refl _) (by omega) (by omega) (fun a ha b hb => by
        have : S a b < p := by rw [HS.out]; exact Nat.mod_lt _ (by omega)
        omega))
      go_wp2_with fail
      go_ret
      exact ⟨_, rfl, HMAT.out, HB.out⟩
end Go.Proofs.Ytglehjcohdjhoaa
