/-
  Package poly: Gcd, the call.
-/
import Derived.Test.YtafoonhmfieikaaApartM
namespace Go.Proofs.Ytafoonhmfieikaa
open Go.RowKit
set_option linter.unusedVariables false

set_option maxHeartbeats 400000 in
theorem gcd2_bad (p : Nat) (v v2 : Value) (f g : List Nat) (w : World) (hp : p < 18446744073709551616) (hv : Nums w v f) (hv2 : Nums w v2 g) (h : M.rgt p [f, g] ≠ 0) :
    Calls Try.prog 34 #[.int .u64 p, v, v2] w (Fails2 w (M.rgt p [f, g])) := by
  have HC := Lib.hid fun op => onTwo_bad p v v2 op f g (w.alloc (.cells #[.int .u64 p] 22)) hp (hv.below (balloc w _)) (hv2.below (balloc w _)) h
  obtain ⟨A, cap, rfl⟩ := nums_slice' hv
  obtain ⟨A2, cap2, rfl⟩ := nums_slice' hv2
  clear h hp hv hv2
  go_enter Try.func34, Try.ntmps34
  go_wp2_with fail
  refine (HC.out _).mono ?_
  rintro e w1 ⟨rfl, hb⟩
  have HB := Lib.hid (bnext (balloc w _) hb)
  clear hb
  go_wp2_with fail
  go_ret2
  exact ⟨rfl, HB.out⟩

set_option maxHeartbeats 400000 in
theorem gcd2_ok (p : Nat) (v v2 : Value) (f g : List Nat) (w : World) (hv : Nums w v f) (hv2 : Nums w v2 g) (h : M.rgt p [f, g] = 0) :
    Calls Try.prog 34 #[.int .u64 p, v, v2] w fun e w' => ∃ u D, e = .returned (.tuple #[u, .int .i64 0]) ∧ Nums w' u D ∧ M.GcdOf p (M.trim f) (M.trim g) D ∧ Below w.heap.size w w' := by
  obtain ⟨hi, ⟨hlf, hwf⟩, hlg, hwg⟩ := M.rgt_ok h
  have HC := Lib.hid (onTwo_gcd p v v2 f g (fun u c w' => c = 0 ∧ ∃ D, Nums w' u D ∧ M.GcdOf p (M.trim f) (M.trim g) D) ⟨w.heap.size, 0, none⟩ (w.alloc (.cells #[.int .u64 p] 22)) (hv.below (balloc w _)) (hv2.below (balloc w _)) h (fun W v' v'' h1 h2 hb => gcd1_any p v' v'' _ _ _ W hi (M.within_trim hwf) (M.trim_trim f) (M.within_trim hwg) (M.trim_trim g) (Nat.le_trans (M.trim_len_le f) hlf) (Nat.le_trans (M.trim_len_le g) hlg) h1 h2 ((hb.cell (p := ⟨w.heap.size, 0, none⟩) (by simp)).trans (by simp))))
  obtain ⟨A, cap, rfl⟩ := nums_slice' hv
  obtain ⟨A2, cap2, rfl⟩ := nums_slice' hv2
  clear h hv hv2 hwf hwg hi
  go_enter Try.func34, Try.ntmps34
  go_wp2_with fail
  refine HC.out.mono ?_
  rintro e w1 ⟨u, c, rfl, ⟨rfl, D, hn, hg⟩, hb⟩
  have HB := Lib.hid (bnext (balloc w _) hb)
  have HN := Lib.hid hn
  have HG := Lib.hid hg
  clear hb hn hg
  go_wp2_with fail
  go_ret2
  exact ⟨_, _, rfl, HN.out, HG.out, HB.out⟩

theorem divide2_fine (p : Nat) (v v2 : Value) (f g : List Nat) (w : World) (hv : Nums w v f) (hv2 : Nums w v2 g) (h : M.rgt p [f, g] = 0) (h0 : M.trim g ≠ []) :
    Calls Try.prog 33 #[.int .u64 p, v, v2] w fun e w' => ∃ vq vr q r, e = .returned (.tuple #[vq, vr, .int .i64 0]) ∧ Nums w' vq q ∧ Nums w' vr r ∧ M.IsDiv p (M.trim f) (M.trim g) q r ∧ Below w.heap.size w w' :=
  (divide2_ok p v v2 f g w hv hv2 h).mono fun e w' ⟨vq, vr, c, he, hb, _, h2⟩ => by
    obtain ⟨rfl, q, r, hq, hr, hd⟩ := h2 h0
    exact ⟨vq, vr, q, r, he, hq, hr, hd, hb⟩
theorem divide2_even (p : Nat) (v v2 : Value) (f D : List Nat) (w : World) (hv : Nums w v f) (hv2 : Nums w v2 D) (hf : M.chk p f 201 = 0) (hD : M.Lead p D) (tD : M.trim D = D) (hl : D.length ≤ 201) (hdv : M.Dv p D (M.at_ (M.trim f))) :
    Calls Try.prog 33 #[.int .u64 p, v, v2] w fun e w' => ∃ vq vr q, e = .returned (.tuple #[vq, vr, .int .i64 0]) ∧ Nums w' vq q ∧ Nums w' vr [] ∧ Below w.heap.size w w' := by
  obtain ⟨hi, _, _⟩ := M.chk_ok hf
  have h0 : M.trim D ≠ [] := fun e => by rw [tD] at e; have := hD.2.1; rw [e] at this; simp at this
  refine (divide2_fine p v v2 f D w hv hv2 (by rw [M.rgt_two, if_pos hf]; exact M.chk_of hi hl hD.1) h0).mono fun e w' hh => ?_
  obtain ⟨vq, vr, q, r, he, hq, hr, hd, hb⟩ := hh
  rw [tD] at hd
  obtain rfl := M.isDiv_of_dv hi hD hdv hd
  exact ⟨vq, vr, q, he, hq, hr, hb⟩
end Go.Proofs.Ytafoonhmfieikaa
