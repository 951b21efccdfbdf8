/-
  The reference of package twice: Cut.
-/
import Derived.Test.YtfkepkdfpjaniaaPt7
import Derived.Test.YtfkepkdfpjaniaaP7b
import Derived.Test.YtfkepkdfpjaniaaRC
namespace Go.Proofs.Ytfkepkdfpjaniaa
open Go.RowKit
set_option linter.unusedVariables false
set_option maxRecDepth 100000

set_option maxHeartbeats 4000000 in
theorem rcut_any (p T : Nat) (n0 : Int) (vl vd : Value) (l : List Int) (d : List Nat) (w : World) (hi : M.isP p = true) (hr : M.RisesTo n0 l l.length) (hnp : n0 < (p : Int)) (hll : l.length ≤ 13) (hdl : d.length ≤ 201) (hdw : M.within p d = true) (hvl : IntsZ w vl l) (hvd : Nums w vd d) :
    Calls Try.prog 38 #[suV p n0 T, vl, vd] w fun e w' => ∃ vz vq z q r, e = .returned (.tuple #[vz, vq, .bool (decide (r.length = 0))]) ∧ Nums w' vz z ∧ Nums w' vq q ∧ M.AwayK p (M.pts l) (M.pts l).length z ∧ M.IsDiv p (M.trim d) z q r ∧ Below w.heap.size w w' := by
  obtain ⟨h3, hp⟩ := M.pos_of hi
  have hpl := M.pts_len l
  have HNU := Lib.hid fun W (h : IntsZ W vl l) => rnumbers_any vl l W (by omega) (fun i hi => by have := M.rises_range hr hi; omega) h
  have HAW := Lib.hid fun W V (h : Nums W V (M.pts l)) => raway_any p V (M.pts l) W hi (M.pts_within hr hnp) (by omega) (M.pts_noz hr) h
  have HDV := Lib.hid fun W V z (hz : M.AwayK p (M.pts l) (M.pts l).length z) (h : Nums W vd d) (h2 : Nums W V z) => by
    have hz0 : M.trim z ≠ [] := by
      intro e
      have h4 := hz.2.2.2.1
      rw [← hz.2.1, e] at h4
      simp [M.pev, M.evN] at h4
    have := rdivide_any p vd V d z W hi hdw hz.1 hdl (by have := hz.2.2.1; omega) hz0 h h2
    rw [hz.2.1] at this
    exact this
  have HVL := Lib.hid hvl
  have HVD := Lib.hid hvd
  obtain ⟨_, _, Al, cl, rfl, _⟩ := hvl
  obtain ⟨Ad, cd, rfl⟩ := nums_slice' hvd
  have hB0 := balloc w (.cells #[.int .u64 p, .int .i64 n0, .int .i64 (T : Nat)] 24)
  obtain ⟨w0, ew0⟩ : ∃ w0, w0 = w.alloc (.cells #[.int .u64 p, .int .i64 n0, .int .i64 (T : Nat)] 24) := ⟨_, rfl⟩
  have hl0 : w.heap.size < w0.heap.size := by rw [ew0]; simp
  have c0 : w0.cell? ⟨w.heap.size, 0, none⟩ = some (.int .u64 (p : Nat)) := by rw [ew0]; simp
  rw [← ew0] at hB0
  have EW0 := Lib.hid ew0
  have HB0 := Lib.hid hB0
  have HL1 := Lib.hid (HVL.out.below hB0.drew)
  clear hvd hr hdw hB0 ew0
  unfold suV
  go_enter Try.func38, Try.ntmps38
  go_wp2_with fail
  rw [← EW0.out]
  go_region_held3 (fun W' => W'.cell? ⟨w.heap.size, 0, none⟩ = some (.int .u64 (p : Nat)))
    (first | exact c0 | exact f1 | exact f2 | go_keep)
    (first
      | (go_at_call 45; (with_reducible refine (HNU.out _ HL1.out).mono ?_); rintro e w1 ⟨v1, rfl, hn1, hb1⟩; have f1 := (hb1.cell (p := ⟨w.heap.size, 0, none⟩) hl0).trans c0)
      | (go_at_call 44; (with_reducible refine (HAW.out _ _ hn1).mono ?_); rintro e w2 ⟨v2, z, rfl, hn2, haw, hb2⟩; have f2 := (hb2.cell (p := ⟨w.heap.size, 0, none⟩) (Nat.lt_of_lt_of_le hl0 hb1.size)).trans f1))
  have hB2 := bnext (bnext HB0.out (below_of_drew6 hb1)) hb2
  have HB2 := Lib.hid hB2
  have HN2 := Lib.hid hn2
  have HAK := Lib.hid haw
  have HD2 := Lib.hid (HDV.out _ _ z haw (HVD.out.below hB2) hn2)
  clear hB2 hb1 hb2 hn1 hn2 haw f1
  go_wp2_with fail
  (with_reducible refine HD2.out.mono ?_)
  rintro e w3 ⟨vq, vr, q, r, rfl, hq, hr, hdv, hb3⟩
  have HB3 := Lib.hid (bnext HB2.out hb3)
  have HN3 := Lib.hid (HN2.out.below hb3)
  have HQ3 := Lib.hid hq
  have HDV3 := Lib.hid hdv
  obtain ⟨Ar, cr, rfl⟩ := nums_slice' hr
  obtain ⟨rl, erl⟩ : ∃ rl, rl = r.length := ⟨_, rfl⟩
  rw [← erl]
  have ERL := Lib.hid erl
  clear hq hr hdv hb3 erl
  go_wp2_with fail
  go_ret3
  have hbe : ((rl : Int) == 0) = decide (r.length = 0) := by rw [← ERL.out, Bool.eq_iff_iff]; simp <;> omega
  exact ⟨_, _, z, q, r, by rw [← hbe]; rfl, HN3.out, HQ3.out, HAK.out, HDV3.out, HB3.out⟩
end Go.Proofs.Ytfkepkdfpjaniaa
