/-
  Package matrix: dots, Apply; Apply of the reference.
-/
import Derived.Test.YtgoognipljknjaaMatA
namespace Go.Proofs.Ytgoognipljknjaa
open Go.RowKit
set_option linter.unusedVariables false
set_option maxRecDepth 100000

theorem dotM_any (p : Nat) (v v2 : Value) (zs ys : List Nat) (w : World) (hi : M.isP p = true) (hw : M.within p zs = true) (hw2 : M.within p ys = true) (he : zs.length = ys.length) (hl : zs.length ≤ 1000) (h1 : Nums w v zs) (h2 : Nums w v2 ys) :
    Calls Try.prog 100 #[.int .u64 p, v, v2] w fun e w' => e = .returned (.tuple #[.int .u64 (M.dotK zs ys zs.length % p : Nat), .int .i64 0]) ∧ w = w' := by
  have hv : M.validB p zs = true := by unfold M.validB; rw [hi, hw]; rfl
  have hv2 : M.validB p ys = true := by unfold M.validB; rw [hi, hw2]; rfl
  have N1 := h1
  have N2 := h2
  by_cases h0 : zs.length = 0
  · obtain ⟨A, c, rfl⟩ := nums_slice' h1
    obtain ⟨A2, c2, rfl⟩ := nums_slice' h2
    rw [← he, h0]
    have e : M.dotK zs ys 0 % p = 0 := by simp [M.dotK]
    rw [e]
    exact dot_none p c c2 A A2 w hi
  · obtain ⟨_, _, h1⟩ := h1
    obtain ⟨_, _, h2⟩ := h2
    rcases h1 with ⟨a, cap, rfl, rfl, _⟩ | ⟨b, off, cap, rfl, hc, hb, hcell⟩
    · simp at h0
    rcases h2 with ⟨a, cap2, rfl, rfl, _⟩ | ⟨b2, off2, cap2, rfl, hc2, hb2, hcell2⟩
    · exact absurd (show zs.length = 0 from he) h0
    rw [← he] at N2 hcell2 ⊢
    exact dot_cells p b off cap b2 off2 cap2 zs ys w hv hv2 (by omega) he N1 N2 hcell hcell2
theorem rdot_any (p : Nat) (v v2 : Value) (zs ys : List Nat) (w : World) (hi : M.isP p = true) (hw : M.within p zs = true) (hw2 : M.within p ys = true) (he : zs.length = ys.length) (hl : zs.length ≤ 1000) (h1 : Nums w v zs) (h2 : Nums w v2 ys) :
    Calls Try.prog 67 #[.int .u64 p, v, v2] w fun e w' => e = .returned (.int .u64 (M.dotK zs ys zs.length % p : Nat)) ∧ Below w.heap.size w w' := by
  have hv : M.validB p zs = true := by unfold M.validB; rw [hi, hw]; rfl
  have hv2 : M.validB p ys = true := by unfold M.validB; rw [hi, hw2]; rfl
  by_cases h0 : zs.length = 0
  · obtain ⟨A, c, rfl⟩ := nums_slice' h1
    obtain ⟨A2, c2, rfl⟩ := nums_slice' h2
    rw [← he, h0]
    have e : M.dotK zs ys 0 % p = 0 := by simp [M.dotK]
    rw [e]
    exact refDot_none p c c2 A A2 w
  · obtain ⟨_, _, h1⟩ := h1
    obtain ⟨_, _, h2⟩ := h2
    rcases h1 with ⟨a, cap, rfl, rfl, _⟩ | ⟨b, off, cap, rfl, hc, hb, hcell⟩
    · simp at h0
    rcases h2 with ⟨a, cap2, rfl, rfl, _⟩ | ⟨b2, off2, cap2, rfl, hc2, hb2, hcell2⟩
    · exact absurd (show zs.length = 0 from he) h0
    rw [← he] at hcell2 ⊢
    exact refDot_cells p b off cap b2 off2 cap2 zs ys w hv hv2 (by omega) he hb hb2 hcell hcell2

namespace M
/-- R rows of K numbers below p, of whatever size up to 64 -/
structure Rows (p : Nat) (m : List (List Nat)) (R K : Nat) : Prop where
  rows : m.length = R
  R64 : R ≤ 64
  K64 : K ≤ 64
  cols : ∀ i, i < R → (m.getD i []).length = K
  lt : ∀ i, i < R → within p (m.getD i []) = true
theorem Ok.all {p : Nat} {m : List (List Nat)} {R K : Nat} (h : Ok p m R K) : Rows p m R K := ⟨h.rows, h.R64, h.K64, h.cols, h.lt⟩
/-- the product of m and the column zs -/
def app (p : Nat) (m : List (List Nat)) (zs : List Nat) (i : Nat) : Nat := dotK (m.getD i []) zs (m.getD i []).length % p
end M

set_option maxHeartbeats 1000000 in
theorem dots_any (p R K : Nat) (v v2 : Value) (m : List (List Nat)) (zs : List Nat) (w : World) (hi : M.isP p = true) (hm : M.Rows p m R K) (hz : zs.length = K) (hw : M.within p zs = true) (hv : Mat w v m) (hN : Nums w v2 zs) :
    Calls Try.prog 60 #[.int .u64 p, v, v2] w (GivesRow w R (M.app p m zs)) := by
  obtain ⟨h3, hp⟩ := M.pos_of hi
  obtain ⟨A, cap, rfl, _, _, hrows⟩ := mat_view hv
  have HRW := Lib.hid hrows
  have HN := Lib.hid hN
  obtain ⟨Az, cz, rfl⟩ := nums_slice' hN
  rw [hm.rows] at HRW ⊢
  have HD := Lib.hid fun (W : World) (k : Nat) (u : Value) (hk : k < R) (h1 : Nums W u (m.getD k [])) (h2 : Nums W (.slice Az zs.length cz) zs) => dotM_any p u _ (m.getD k []) zs W hi (hm.lt k hk) hw (by rw [hm.cols k hk, hz]) (by have := hm.K64; rw [hm.cols k hk]; omega) h1 h2
  rw [hz] at HN HD ⊢
  have hR64 := hm.R64
  obtain ⟨cs, hmk, hmrow⟩ := make_u64 R (by omega)
  obtain ⟨gs, egs⟩ : ∃ gs, gs = w.heap.size := ⟨_, rfl⟩
  obtain ⟨W0, eW0⟩ : ∃ W0, W0 = w.alloc (.cells cs 22) := ⟨_, rfl⟩
  have hr0 : Row W0 gs R (fun i => if i < 0 then M.app p m zs i else 0) := by rw [eW0, egs]; exact (hmrow w).congr fun j _ => by rw [if_neg (by omega)]
  have HR0 := Lib.hid hr0
  have HB0 := Lib.hid (show Below w.heap.size w W0 by rw [eW0]; exact balloc w _)
  have EW0 := Lib.hid eW0
  have EGS := Lib.hid egs
  have hgs : w.heap.size ≤ gs := by omega
  clear hrows hv hN hi hz hw hm hmrow hr0 eW0 egs
  go_enter Try.func60, Try.ntmps60
  go_wp2_with fail
  rw [← EW0.out]
  simp only [← EGS.out]
  clear hmk
  go_loopw [15] (fun ti wr => ∃ k : Nat, k ≤ R ∧ ti = .int .i64 k ∧ Row wr gs R (fun i => if i < k then M.app p m zs i else 0) ∧ Below w.heap.size w wr) (fun ti _ => R - (intOf ti).toNat)
  case atStart => exact ⟨0, by omega, rfl, HR0.out, HB0.out⟩
  case round =>
    obtain ⟨k, hk, rfl, hr, hB⟩ := hrel
    have HR := Lib.hid hr
    have HB := Lib.hid hB
    clear hr hB HR0 HB0
    by_cases hlt : k < R
    · obtain ⟨b, off, rfl, hbl, hcells⟩ := HRW.out (by omega)
      obtain ⟨Au, cu, ck, hN1⟩ := hcells k (by have := (show k < R from hlt); omega)
      obtain ⟨L, eL⟩ : ∃ L, (m.getD k []).length = L := ⟨_, rfl⟩
      rw [eL] at ck hN1
      have ck2 := (HB.out.cell (p := ⟨b, off + k, none⟩) hbl).trans ck
      have hd := HD.out wr k _ hlt (hN1.below HB.out) (HN.out.below HB.out)
      have hc := HR.out.cell hlt
      have hf := HR.out.free k
      have hs := HR.out.set hlt (M.app p m zs k)
      have hs2 := hs.congr (F' := fun i => if i < k + 1 then M.app p m zs i else 0) (fun i hi => by
        by_cases e : i = k
        · subst e; rw [if_pos rfl, if_pos (by omega)]
        · rw [if_neg e]
          by_cases e2 : i < k
          · rw [if_pos e2, if_pos (by omega)]
          · rw [if_neg e2, if_neg (by omega)])
      have ex : M.dotK (m.getD k []) zs (m.getD k []).length % p = M.app p m zs k := rfl
      rw [ex] at hd
      obtain ⟨x, exx⟩ : ∃ x, M.app p m zs k = x := ⟨_, rfl⟩
      rw [exx] at hd hs2
      have HDD := Lib.hid hd
      have HS := Lib.hid hs2
      clear hcells ck hN1 eL hd hs hs2 ex exx
      go_wp2_with fail
      refine HDD.out.mono ?_
      rintro e w' ⟨rfl, rfl⟩
      go_wp2_with fail
      go_roundw
      case rel => exact ⟨k + 1, by omega, by go_num, HS.out, HB.out.setCell (p := ⟨gs, k, none⟩) hgs _⟩
      case measure => simp [intOf]; omega
    · obtain rfl : R = k := by omega
      go_wp2_with fail
      go_ret
      exact ⟨gs, R, rfl, hgs, Nat.le_refl _, HR.out.congr fun j hj => by rw [if_pos hj], HB.out⟩

set_option maxHeartbeats 400000 in
theorem apply_bad (p : Nat) (v : Value) (m : List (List Nat)) (vv : Value) (zs : List Nat) (w : World) (hp : p < 18446744073709551616) (hv : Mat w v m) (hz : Nums w vv zs) (h : M.chkm p m ≠ 0) :
    Calls Try.prog 18 #[.int .u64 p, v, vv] w fun e w' => e = .returned (.tuple #[.slice none 0 0, .int .i64 (M.chkm p m)]) ∧ Below w.heap.size w w' := by
  have HC := Lib.hid (mcheck_any p v m w hp hv)
  obtain ⟨A, cap, rfl, _⟩ := mat_view hv
  obtain ⟨Az, cz, rfl⟩ := nums_slice' hz
  have hb : (M.chkm p m != 0) = true := by rw [bne_iff_ne]; exact h
  obtain ⟨c, ec⟩ : ∃ c, c = M.chkm p m := ⟨_, rfl⟩
  rw [← ec] at HC hb ⊢
  clear ec h hp hv hz
  go_enter Try.func18, Try.ntmps18
  go_wp2_with fail
  refine HC.out.mono ?_
  rintro e w1 ⟨rfl, hb1⟩
  have HB := Lib.hid hb1
  clear hb1
  go_wp2_with fail
  go_ret2
  exact ⟨rfl, HB.out⟩

set_option maxHeartbeats 1000000 in
theorem apply_arg (p R K : Nat) (v : Value) (m : List (List Nat)) (vv : Value) (zs : List Nat) (w : World) (hok : M.Ok p m R K) (hv : Mat w v m) (hz : Nums w vv zs) (h : zs.length ≠ K ∨ M.within p zs = false) :
    Calls Try.prog 18 #[.int .u64 p, v, vv] w fun e w' => e = .returned (.tuple #[.slice none 0 0, .int .i64 2]) ∧ Below w.heap.size w w' := by
  obtain ⟨h3, hp⟩ := M.pos_of hok.isp
  have hud : ∀ b : Bool, undef ≠ Value.bool b := fun b h => by cases h
  have hc := mcheck_any p v m w (by omega) hv
  rw [hok.chk] at hc
  have HC := Lib.hid hc
  have HZ := Lib.hid hz
  have hR1 := hok.R1
  have hK64 := hok.K64
  obtain ⟨A, cap, rfl, _, _, hrows⟩ := mat_view hv
  obtain ⟨Az, cz, rfl⟩ := nums_slice' hz
  rw [hok.rows] at HC hrows ⊢
  obtain ⟨bm, om, rfl, hbm, hcells⟩ := hrows (by omega)
  obtain ⟨A0, k0, cm, _⟩ := hcells 0 (by omega)
  rw [Nat.add_zero, hok.cols 0 (by omega)] at cm
  have hLi : zs.length ≤ 17592186043904 := hz.2.1
  obtain ⟨L, eL⟩ : ∃ L, zs.length = L := ⟨_, rfl⟩
  rw [eL] at HZ h hLi ⊢
  clear hc hv hz hok hrows hcells eL
  by_cases hL : L = K
  · have hw := h.resolve_left (by simp [hL])
    have hb1 : ((L : Int) != (K : Int)) = false := by simp [hL]
    have HW := Lib.hid hw
    clear hw h hL
    go_enter Try.func18, Try.ntmps18
    go_wp2_with fail
    refine HC.out.mono ?_
    rintro e w1 ⟨rfl, hb⟩
    have cm1 := (hb.cell (p := ⟨bm, om, none⟩) hbm).trans cm
    have HB1 := Lib.hid hb
    have hA := allBelow_any p _ zs w1 (HZ.out.below hb)
    rw [HW.out] at hA
    have HA := Lib.hid hA
    clear hb hA
    go_wp2_with fail
    refine HA.out.mono ?_
    rintro e w2 ⟨rfl, hb⟩
    have HB2 := Lib.hid (bnext HB1.out hb)
    clear hb
    go_wp2_with fail
    go_ret2
    exact ⟨rfl, HB2.out⟩
  · have hb1 : ((L : Int) != (K : Int)) = true := by simp; omega
    clear h hL
    go_enter Try.func18, Try.ntmps18
    go_wp2_with fail
    refine HC.out.mono ?_
    rintro e w1 ⟨rfl, hb⟩
    have cm1 := (hb.cell (p := ⟨bm, om, none⟩) hbm).trans cm
    have HB1 := Lib.hid hb
    clear hb
    go_wp2_with fail
    go_ret2
    exact ⟨rfl, HB1.out⟩

def ApplyEnd (w : World) (p R : Nat) (m : List (List Nat)) (zs : List Nat) (e : Ending) (w' : World) : Prop :=
  ∃ g cap, e = .returned (.tuple #[.slice (some ⟨g, 0, none⟩) R cap, .int .i64 0]) ∧ w.heap.size ≤ g ∧ R ≤ cap ∧ Row w' g R (M.app p m zs) ∧ Below w.heap.size w w'

set_option maxHeartbeats 1000000 in
theorem apply_ok (p R K : Nat) (v : Value) (m : List (List Nat)) (vv : Value) (zs : List Nat) (w : World) (hok : M.Ok p m R K) (hv : Mat w v m) (hz : Nums w vv zs) (hzl : zs.length = K) (hzw : M.within p zs = true) :
    Calls Try.prog 18 #[.int .u64 p, v, vv] w (ApplyEnd w p R m zs) := by
  obtain ⟨h3, hp⟩ := M.pos_of hok.isp
  have hc := mcheck_any p v m w (by omega) hv
  rw [hok.chk] at hc
  have HC := Lib.hid hc
  have HZ := Lib.hid hz
  have HV := Lib.hid hv
  have HA := Lib.hid fun W (hW : Nums W vv zs) => allBelow_any p _ zs W hW
  rw [hzw] at HA
  have HD := Lib.hid fun W (hW : Mat W v m) (hZ : Nums W vv zs) => dots_any p R K v vv m zs W hok.isp hok.all hzl hzw hW hZ
  have hR1 := hok.R1
  have hK64 := hok.K64
  obtain ⟨A, cap, rfl, _, _, hrows⟩ := mat_view hv
  obtain ⟨Az, cz, rfl⟩ := nums_slice' hz
  rw [hok.rows] at HC hrows HV HD ⊢
  rw [hzl] at HZ HA HD ⊢
  obtain ⟨bm, om, rfl, hbm, hcells⟩ := hrows (by omega)
  obtain ⟨A0, k0, cm, _⟩ := hcells 0 (by omega)
  rw [Nat.add_zero, hok.cols 0 (by omega)] at cm
  have hb1 : ((K : Int) != (K : Int)) = false := by simp
  clear hc hv hz hok hrows hcells hzl hzw
  go_enter Try.func18, Try.ntmps18
  go_wp2_with fail
  refine HC.out.mono ?_
  rintro e w1 ⟨rfl, hb⟩
  have cm1 := (hb.cell (p := ⟨bm, om, none⟩) hbm).trans cm
  have HB1 := Lib.hid hb
  have HA1 := Lib.hid (HA.out w1 (HZ.out.below hb))
  clear hb
  go_wp2_with fail
  refine HA1.out.mono ?_
  rintro e w2 ⟨rfl, hb⟩
  have HB2 := Lib.hid (bnext HB1.out hb)
  have HD2 := Lib.hid (HD.out w2 ((HV.out.below HB1.out).below hb) ((HZ.out.below HB1.out).below hb))
  clear hb
  go_wp2_with fail
  refine HD2.out.mono ?_
  rintro e w3 ⟨g, c, rfl, hg, hc, hr, hb⟩
  have HB3 := Lib.hid (bnext HB2.out hb)
  have HR3 := Lib.hid hr
  have hg2 : w.heap.size ≤ g := by have := HB2.out.size; omega
  clear hb hr hg
  go_wp2_with fail
  go_ret2
  exact ⟨g, c, rfl, hg2, hc, HR3.out, HB3.out⟩

theorem nums_apply {w : World} {p R g cap : Nat} {m : List (List Nat)} {zs : List Nat} (hp : 0 < p) (hp2 : p ≤ 65537) (hR : R ≤ 1000) (h : Row w g R (M.app p m zs)) (hc : R ≤ cap) : Nums w (.slice (some ⟨g, 0, none⟩) R cap) (M.tabM R (M.app p m zs)) :=
  h.nums (Nat.le_refl _) hc (by omega) fun j _ => by have : M.app p m zs j < p := Nat.mod_lt _ hp; omega

set_option maxHeartbeats 1000000 in
theorem rapply_any (p R K : Nat) (v v2 : Value) (m : List (List Nat)) (zs : List Nat) (w : World) (hi : M.isP p = true) (hm : M.Rows p m R K) (hz : zs.length = K) (hw : M.within p zs = true) (hv : Mat w v m) (hN : Nums w v2 zs) :
    Calls Try.prog 23 #[.int .u64 p, v, v2] w (Gives w (M.tabM R (M.app p m zs))) := by
  obtain ⟨h3, hp⟩ := M.pos_of hi
  obtain ⟨A, cap, rfl, _, _, hrows⟩ := mat_view hv
  have HRW := Lib.hid hrows
  have HN := Lib.hid hN
  obtain ⟨Az, cz, rfl⟩ := nums_slice' hN
  rw [hm.rows] at HRW ⊢
  have HD := Lib.hid fun (W : World) (k : Nat) (u : Value) (hk : k < R) (h1 : Nums W u (m.getD k [])) (h2 : Nums W (.slice Az zs.length cz) zs) => rdot_any p u _ (m.getD k []) zs W hi (hm.lt k hk) hw (by rw [hm.cols k hk, hz]) (by have := hm.K64; rw [hm.cols k hk]; omega) h1 h2
  rw [hz] at HN HD ⊢
  have hR64 := hm.R64
  clear hrows hv hN hi hz hw hm
  go_enter Try.func23, Try.ntmps23
  go_wp2_with fail
  go_loopw [12, 7] (fun ti tv wr => ∃ k : Nat, k ≤ R ∧ ti = .int .i64 k ∧ wr.ownsRow w.heap.size 22 1 tv k (vals (M.tabM k (M.app p m zs))) ∧ Below w.heap.size w wr) (fun ti _ _ => R - (intOf ti).toNat)
  case atStart => exact ⟨0, by omega, rfl, World.ownsRow_nil _ _ _ _, Below.refl _ _⟩
  case round =>
    obtain ⟨k, hk, rfl, hown, hB⟩ := hrel
    have HO := Lib.hid hown
    have HB := Lib.hid hB
    clear hown hB
    by_cases hlt : k < R
    · obtain ⟨b, off, rfl, hbl, hcells⟩ := HRW.out (by omega)
      obtain ⟨Au, cu, ck, hN1⟩ := hcells k (by have := (show k < R from hlt); omega)
      obtain ⟨L, eL⟩ : ∃ L, (m.getD k []).length = L := ⟨_, rfl⟩
      rw [eL] at ck hN1
      have ck2 := (HB.out.cell (p := ⟨b, off + k, none⟩) hbl).trans ck
      have hd := HD.out wr k _ hlt (hN1.below HB.out) (HN.out.below HB.out)
      have ex : M.dotK (m.getD k []) zs (m.getD k []).length % p = M.app p m zs k := rfl
      rw [ex] at hd
      have hsn : vals (M.tabM (k + 1) (M.app p m zs)) = vals (M.tabM k (M.app p m zs) ++ [M.app p m zs k]) := by simp [M.tabM, List.range_succ]
      obtain ⟨x, exx⟩ : ∃ x, M.app p m zs k = x := ⟨_, rfl⟩
      rw [exx] at hd hsn
      have HDD := Lib.hid hd
      have HSN := Lib.hid hsn
      clear hcells ck hN1 eL hd ex exx hsn
      go_wp2_with fail
      refine HDD.out.mono ?_
      rintro e w1 ⟨rfl, hb⟩
      have HROW := Lib.hid (own_keep HO.out hb)
      have HB1 := Lib.hid (bnext HB.out hb)
      clear hb
      go_wp2_with (at_builtin; refine wpList_append_num (y := x) rfl _ _ rfl rfl rfl HROW.out (by omega) HB1.out.size ?_)
      intro v' w4 hown' hb4
      have HB4 := Lib.hid (HB1.out.trans hb4)
      rw [← HSN.out] at hown'
      have HOW := Lib.hid hown'
      clear hown' hb4
      go_wp2_with fail
      go_roundw
      case rel => exact ⟨k + 1, by omega, by go_num, HOW.out, HB4.out⟩
      case measure => simp [intOf]; omega
    · obtain rfl : R = k := by omega
      have hN := nums_of_owns (zs := M.tabM R (M.app p m zs)) HO.out (fun x hx => by
        unfold M.tabM at hx
        obtain ⟨i, _, rfl⟩ := List.mem_map.1 hx
        have : M.app p m zs i < p := Nat.mod_lt _ (by omega)
        omega) (by rw [M.tabM_len]; omega)
      have HN2 := Lib.hid hN
      clear hN
      go_wp2_with fail
      go_ret
      exact ⟨_, rfl, HN2.out, HB.out⟩
end Go.Proofs.Ytgoognipljknjaa
