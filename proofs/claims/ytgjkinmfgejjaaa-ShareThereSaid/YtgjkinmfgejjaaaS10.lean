/-
  Layer 4's reference: Numbers, Move.
-/
import Derived.Test.YtgjkinmfgejjaaaS8
import Derived.Test.YtgjkinmfgejjaaaRef2e
import Derived.Test.YtgjkinmfgejjaaaKept
namespace Go.Proofs.Ytgjkinmfgejjaaa
open Go.RowKit
set_option linter.unusedVariables false
set_option maxRecDepth 100000

theorem M.pts_take {l : List Int} {k : Nat} (h : k < l.length) : M.pts (l.take (k + 1)) = M.pts (l.take k) ++ [(l.getD k 0).toNat] := by
  unfold M.pts
  rw [List.take_succ_eq_append_getElem h, List.map_append, List.getD_eq_getElem?_getD, List.getElem?_eq_getElem h]
  rfl

set_option maxHeartbeats 1000000 in
theorem rnumbers_any (v : Value) (l : List Int) (w : World) (hl : l.length ≤ 1000) (hpos : ∀ i, i < l.length → 0 ≤ l.getD i 0) (hv : IntsZ w v l) :
    Calls Try.prog 77 #[v] w (Gives w (M.pts l)) := by
  obtain ⟨hz, _, A, cap, rfl, hcap, hcell⟩ := hv
  have HV := Lib.hid hcell
  have HZ := Lib.hid hz
  have HP := Lib.hid hpos
  clear hcell hz hpos
  go_enter Try.func77, Try.ntmps77
  go_wp2_with fail
  go_loopw [3, 8] (fun tv ti wr => ∃ k : Nat, k ≤ l.length ∧ ti = .int .i64 k ∧ wr.ownsRow w.heap.size 22 1 tv k (vals (M.pts (l.take k))) ∧ Below w.heap.size w wr) (fun _ ti _ => l.length - (intOf ti).toNat)
  case atStart => exact ⟨0, by omega, rfl, World.ownsRow_nil _ _ _ _, Below.refl _ _⟩
  case round =>
    obtain ⟨k, hk, rfl, hown, hB⟩ := hrel
    have HO := Lib.hid hown
    have HBr := Lib.hid hB
    clear hown hB
    by_cases hlt : k < l.length
    · obtain ⟨b, off, rfl, hb, hcell⟩ := HV.out (by omega)
      have hc := (HBr.out.cell (p := ⟨b, off + k, none⟩) hb).trans (hcell k hlt)
      have hzk := HZ.out (l.getD k 0) (by rw [List.getD_eq_getElem?_getD, List.getElem?_eq_getElem hlt]; exact List.getElem_mem hlt)
      have hsn := congrArg vals (M.pts_take hlt)
      rw [vals_snoc] at hsn
      obtain ⟨x, hx⟩ := Int.eq_ofNat_of_zero_le (HP.out k hlt)
      rw [hx] at hc hzk hsn
      rw [show ((x : Int)).toNat = x from rfl] at hsn
      have HSN := Lib.hid hsn
      have hkn : (k : Int) < (l.length : Nat) := by omega
      clear hx hcell hsn
      go_wp2_with (at_builtin; refine wpList_append_nums (by rfl) _ _ (by rfl) w.heap.size _ k _ (by rfl) (HO.out.alloc _) _ [x] (by rfl) (nums1 wr x (by omega)) (by simp; omega) (by have := HBr.out.size; simp; omega) ?_)
      intro v' w4 hown' hb4
      have HB4 := Lib.hid (HBr.out.trans (((Below.refl w.heap.size wr).alloc HBr.out.size _).trans hb4))
      have hown' : w4.ownsRow w.heap.size 22 1 v' (k + 1) _ := hown'
      rw [show vals [x] = [Value.int .u64 (x : Nat)] from rfl, ← HSN.out] at hown'
      have HOW := Lib.hid hown'
      clear hown' hb4
      go_wp2_with fail
      go_roundw
      case rel => exact ⟨k + 1, by omega, by go_num, HOW.out, HB4.out⟩
      case measure => simp [intOf]; omega
    · obtain rfl : k = l.length := by omega
      have hown := HO.out
      rw [List.take_length] at hown
      have HN := Lib.hid (nums_of_owns hown (fun x hx => by
        obtain ⟨z, hz, rfl⟩ := List.mem_map.1 hx
        have := HZ.out z hz
        omega) (by rw [M.pts_len]; omega))
      clear hown
      go_wp2_with fail
      go_ret
      exact ⟨_, rfl, HN.out, HBr.out⟩

set_option maxHeartbeats 4000000 in
theorem rmove_any (p s : Nat) (n t : Int) (vf vl : Value) (f : List Nat) (l : List Int) (w : World) (hvf : Nums w vf f) (hvl : IntsZ w vl l)
    (h : M.errC p n t l = 0) (hc : M.chk p f 201 = 0) (hs : s < p) :
    Calls Try.prog 40 #[suV p n t, vf, vl, .int .u64 s] w fun e w' => ∃ g, M.Moved p f l s g ∧ Gives w g e w' := by
  obtain ⟨N, rfl, hi, h3, hp, h1, h2, h4, hl3, ht, hr⟩ := M.errC_nat h
  obtain ⟨_, hfl, hwf⟩ := M.chk_ok hc
  have hev := M.pev_lt (p := p) f 0 (by omega)
  have HE := Lib.hid fun W (hW : Nums W vf f) => reval_any p 0 vf f W (by omega) hp (by omega) hwf hW
  have HS := Lib.hid fun W => refSub_any p s (M.pev p f 0) W (by omega) hp hs hev
  have hby : M.mvBy p f s < p := Nat.mod_lt _ (by omega)
  have hpw := M.pts_within hr (p := p) (by omega)
  have hpl := M.pts_len l
  have HPT := Lib.hid fun W (hW : IntsZ W vl l) => rnumbers_any vl l W (by omega) (fun i hi => by have := M.rises_range hr hi; omega) hW
  have HAW := Lib.hid fun W v (hW : Nums W v (M.pts l)) => raway_any p v (M.pts l) W hi hpw (by omega) (M.pts_noz hr) hW
  have HSC := Lib.hid fun W v A (hW : Nums W v A) (hA : M.AwayOf p (M.pts l) A) => rscale_any p (M.mvBy p f s) v A W (by omega) hp hby (M.away_within hA).1 (by have := (M.away_within hA).2; omega) hW
  have HAD := Lib.hid fun W v A (hf : Nums W vf f) (hW : Nums W v (M.pscale p A (M.mvBy p f s))) (hA : M.AwayOf p (M.pts l) A) => radd_any p vf v f (M.pscale p A (M.mvBy p f s)) W (by omega) hp hwf (M.pscale_within (p := p) (by omega) A (M.mvBy p f s)).1 (by omega) (by
    have := M.pscale_within (p := p) (by omega) A (M.mvBy p f s)
    have := (M.away_within hA).2
    omega) hf hW
  have HM : Hid (∀ A, M.AwayOf p (M.pts l) A → M.Moved p f l s (M.padd p f (M.pscale p A (M.mvBy p f s)))) := Lib.hid fun A hA => ⟨A, hA, rfl⟩
  have HL := Lib.hid hvl
  have HV := Lib.hid hvf
  unfold M.mvBy at hby HSC HAD HM
  obtain ⟨y, ey⟩ : ∃ y, y = M.pev p f 0 := ⟨_, rfl⟩
  rw [← ey] at HE HS hev hby HSC HAD HM
  obtain ⟨x, ex⟩ : ∃ x, x = (s + p - y) % p := ⟨_, rfl⟩
  rw [← ex] at HS hby HSC HAD HM
  obtain ⟨Af, capf, rfl⟩ := nums_slice' hvf
  obtain ⟨_, _, Al, capl, rfl, _⟩ := hvl
  have hB0 := balloc w (.cells #[.int .u64 p, .int .i64 N, .int .i64 t] 24)
  have hK0 := kept3 w w.heap.size rfl (.int .u64 p) (.int .i64 N) (.int .i64 t) 24
  obtain ⟨w0, hw0⟩ : ∃ w0, w.alloc (.cells #[.int .u64 p, .int .i64 N, .int .i64 t] 24) = w0 := ⟨_, rfl⟩
  rw [hw0] at hB0 hK0
  have B0 := Lib.hid hB0
  have K0 := Lib.hid hK0
  have V0 := Lib.hid (HV.out.below hB0)
  have L0 := Lib.hid (HL.out.below hB0)
  obtain ⟨d0, d1, d2⟩ := hK0.c3
  unfold suV
  clear h hvf hi hr ey ex hc hpw hpl hB0 hK0 hwf
  go_enter Try.func40, Try.ntmps40
  go_wp2_with fail
  clear hw0
  go_region_held3 (fun W' => W'.cell? ⟨w.heap.size, 0, none⟩ = some (.int .u64 p) ∧ W'.cell? ⟨w.heap.size, 1, none⟩ = some (.int .i64 N) ∧ W'.cell? ⟨w.heap.size, 2, none⟩ = some (.int .i64 t))
    (first | exact K0.out.c3 | go_keep)
    (first
      | (go_at_call 31; refine (HE.out _ (V0.out.below (Below.refl _ _).drew)).mono ?_; rintro e w' ⟨rfl, rfl⟩)
      | (go_at_call 73; refine (HS.out _).mono ?_; rintro e w' ⟨rfl, rfl⟩))
  all_goals
    go_wp2_with fail
    go_region_held3 (fun W' => W'.cell? ⟨w.heap.size, 0, none⟩ = some (.int .u64 p) ∧ W'.cell? ⟨w.heap.size, 1, none⟩ = some (.int .i64 N) ∧ W'.cell? ⟨w.heap.size, 2, none⟩ = some (.int .i64 t))
      (first | exact K0.out.c3 | go_keep | exact q1.c3 | exact q2.c3 | exact q3.c3 | exact q4.c3)
      (first
        | (go_at_call 77; refine (HPT.out _ (L0.out.below (Below.refl _ _).drew.drew)).mono ?_; rintro e w1 ⟨v1, rfl, hn1, hb1⟩; have b1 := (Below.refl w0.heap.size w0).drew.drew.trans hb1; have q1 := K0.out.below b1; have r1 := bnext B0.out b1; have x1 := V0.out.below b1)
        | (go_at_call 76; refine (HAW.out _ _ hn1).mono ?_; rintro e w2 ⟨v2, A, rfl, hn2, hA, hb2⟩; have q2 := q1.below hb2; have r2 := bnext r1 hb2; have x2 := x1.below hb2)
        | (go_at_call 75; refine (HSC.out _ _ _ hn2 hA).mono ?_; rintro e w3 ⟨v3, rfl, hn3, hb3⟩; have q3 := q2.below hb3; have r3 := bnext r2 hb3; have x3 := x2.below hb3)
        | (go_at_call 74; refine (HAD.out _ _ _ x3 hn3 hA).mono ?_; rintro e w4 ⟨v4, rfl, hn4, hb4⟩; have q4 := q3.below hb4; have r4 := bnext r3 hb4))
    all_goals
      have R4 := Lib.hid r4
      have N4 := Lib.hid hn4
      have HA := Lib.hid hA
      clear b1 q1 q2 q3 q4 r1 r2 r3 r4 x1 x2 x3 hn1 hn2 hn3 hn4 hb1 hb2 hb3 hb4 hA
      go_wp2_with fail
      go_ret
      exact ⟨_, HM.out _ HA.out, _, rfl, N4.out, R4.out⟩
end Go.Proofs.Ytgjkinmfgejjaaa
