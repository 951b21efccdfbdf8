/-
  The reference's Check, of one matrix and of two.
-/
import Derived.Test.YtglehjcohdjhoaaPr1
namespace Go.Proofs.Ytglehjcohdjhoaa
open Go.RowKit
set_option linter.unusedVariables false
set_option maxRecDepth 100000

namespace M
def pfrms (p n : Nat) (ms : Nat → List (List Nat)) : Nat → Int
  | 0 => 0
  | k + 1 => if pfrms p n ms k = 0 then pform p n (ms k) else pfrms p n ms k
theorem pfrms_stop {p n : Nat} {ms : Nat → List (List Nat)} {k : Nat} (h : pfrms p n ms k = 0) (hk : pform p n (ms k) ≠ 0) : ∀ N, k < N → pfrms p n ms N = pform p n (ms k)
  | 0, hn => absurd hn (by omega)
  | N + 1, hn => by
    unfold pfrms
    by_cases e : k = N
    · subst e; rw [if_pos h]
    · have := pfrms_stop h hk N (by omega)
      rw [this, if_neg hk]
theorem pfrms_next {p n : Nat} {ms : Nat → List (List Nat)} {k : Nat} (h : pfrms p n ms k = 0) (hk : pform p n (ms k) = 0) : pfrms p n ms (k + 1) = 0 := by unfold pfrms; rw [if_pos h, hk]
/-- the error for a prime, a degree and a matrix -/
def pchk (p : Nat) (t : Int) (m : List (List Nat)) : Int := if bnd p t = 0 then pform p (t.toNat + 1) m else 2
def pchkl (p : Nat) (t : Int) (ms : Nat → List (List Nat)) (n : Nat) : Int := if bnd p t = 0 then pfrms p (t.toNat + 1) ms n else 2
theorem pchk_zero {p : Nat} {t : Int} {m : List (List Nat)} (h : pchk p t m = 0) : ∃ T : Nat, t = T ∧ T ≤ 3 ∧ isP p = true ∧ POk p (T + 1) m := by
  unfold pchk at h
  split at h
  · rename_i hb
    obtain ⟨T, rfl, hT, hp⟩ := bnd_zero hb
    exact ⟨T, rfl, hT, hp, pform_zero h⟩
  · cases h
theorem pchk_ok {p T : Nat} {m : List (List Nat)} (hp : isP p = true) (hT : T ≤ 3) (h : POk p (T + 1) m) : pchk p T m = 0 := by
  unfold pchk
  rw [if_pos (bnd_ok hp hT)]
  exact pform_ok h
end M

set_option maxHeartbeats 1000000 in
theorem rcheck6_any (p b n : Nat) (t : Int) (vs : Nat → Value) (ms : Nat → List (List Nat)) (w : World) (hp : p < 18446744073709551616) (h1 : -9223372036854775808 ≤ t) (h2 : t ≤ 9223372036854775807) (hn : n ≤ 10) (hb : b < w.heap.size)
    (hc : ∀ i, i < n → w.cell? ⟨b, i, none⟩ = some (vs i)) (hv : ∀ i, i < n → Mat w (vs i) (ms i)) :
    Calls Try.prog 16 #[.int .u64 p, .int .i64 t, .slice (some ⟨b, 0, none⟩) n n] w fun e w' => e = .returned (.int .i64 (M.pchkl p t ms n)) ∧ Below w.heap.size w w' := by
  have HC := Lib.hid hc
  have HV := Lib.hid hv
  have hi := rbounds_any p t w hp h1 h2
  clear hc hv
  by_cases h : M.bnd p t = 0
  case neg =>
    rw [M.bnd_no h] at hi
    have HI := Lib.hid hi
    have HH := Lib.hid h
    clear hi h hp
    go_enter Try.func16, Try.ntmps16
    go_wp2_with fail
    refine HI.out.mono ?_
    rintro e w' ⟨rfl, rfl⟩
    go_wp2_with fail
    go_ret
    exact ⟨ret1 (by unfold M.pchkl; rw [if_neg HH.out]), Below.refl _ _⟩
  obtain ⟨T, rfl, hT, hip⟩ := M.bnd_zero h
  rw [h] at hi
  have HI := Lib.hid hi
  have HH := Lib.hid h
  clear hi h hp
  go_enter Try.func16, Try.ntmps16
  go_wp2_with fail
  refine HI.out.mono ?_
  rintro e w' ⟨rfl, rfl⟩
  go_wp2_with fail
  go_loopw [19] (fun t wr => ∃ k : Nat, k ≤ n ∧ t = .int .i64 k ∧ M.pfrms p (T + 1) ms k = 0 ∧ Below w.heap.size w wr) (fun t _ => n - (intOf t).toNat)
  case atStart => exact ⟨0, by omega, rfl, rfl, Below.refl _ _⟩
  case round =>
    obtain ⟨k, hk, rfl, hz, hB⟩ := hrel
    have HZ := Lib.hid hz
    have HB := Lib.hid hB
    clear hz hB
    by_cases hlt : k < n
    · have ck := (HB.out.cell (p := ⟨b, k, none⟩) hb).trans (HC.out k hlt)
      have hm := (HV.out k hlt).below HB.out
      obtain ⟨v, ev⟩ : ∃ v, vs k = v := ⟨_, rfl⟩
      rw [ev] at ck hm
      have HF := Lib.hid (rform6_any p T v _ wr hT hm)
      obtain ⟨A, cap, rfl, _⟩ := mat_view6 hm
      obtain ⟨L, eL⟩ : ∃ L, (ms k).length = L := ⟨_, rfl⟩
      rw [eL] at ck HF
      obtain ⟨c, ec⟩ : ∃ c, M.pform p (T + 1) (ms k) = c := ⟨_, rfl⟩
      rw [ec] at HF
      have EC := Lib.hid ec
      clear hm ev eL ec
      by_cases h0 : c = 0
      · have hb : (c != 0) = false := by simp [h0]
        have H0 := Lib.hid h0
        clear h0
        go_wp2_with fail
        refine HF.out.mono ?_
        rintro e w' ⟨rfl, hb1⟩
        have HB1 := Lib.hid (bnext HB.out hb1)
        clear hb1
        go_wp2_with fail
        go_roundw
        case rel => exact ⟨k + 1, by omega, by go_num, M.pfrms_next HZ.out (by rw [EC.out]; exact H0.out), HB1.out⟩
        case measure => simp [intOf]; omega
      · have hb : (c != 0) = true := by rw [bne_iff_ne]; exact h0
        have H0 := Lib.hid h0
        clear h0
        go_wp2_with fail
        refine HF.out.mono ?_
        rintro e w' ⟨rfl, hb1⟩
        have HB1 := Lib.hid (bnext HB.out hb1)
        clear hb1
        go_wp2_with fail
        go_ret
        exact ⟨ret1 (by unfold M.pchkl; rw [if_pos HH.out, Int.toNat_natCast, M.pfrms_stop HZ.out (by rw [EC.out]; exact H0.out) n hlt, EC.out]), HB1.out⟩
    · obtain rfl : k = n := by omega
      go_wp2_with fail
      go_ret
      exact ⟨ret1 (by unfold M.pchkl; rw [if_pos HH.out, Int.toNat_natCast, HZ.out]), HB.out⟩

theorem rcheck6_one (p : Nat) (t : Int) (v : Value) (m : List (List Nat)) (w : World) (hp : p < 18446744073709551616) (h1 : -9223372036854775808 ≤ t) (h2 : t ≤ 9223372036854775807) (hv : Mat w v m) :
    Calls Try.prog 16 #[.int .u64 p, .int .i64 t, .slice (some ⟨w.heap.size, 0, none⟩) 1 1] (w.alloc (.cells #[v] 23)) fun e w' => e = .returned (.int .i64 (M.pchk p t m)) ∧ Below w.heap.size w w' := by
  have hh := heap_alloc_new w (.cells #[v] 23)
  refine (rcheck6_any p w.heap.size 1 t (fun _ => v) (fun _ => m) _ hp h1 h2 (by omega) (by simp) (fun i hi => ?_) (fun i hi => hv.below (balloc w _))).mono ?_
  · obtain rfl : i = 0 := by omega
    rw [cell_of_row _ _ 0 _ _ (0, 0) hh]; rfl
  · rintro e w' ⟨rfl, hb⟩
    refine ⟨by unfold M.pchkl M.pchk; rfl, bnext (balloc w _) hb⟩
theorem rcheck6_two (p : Nat) (t : Int) (v v2 : Value) (m m2 : List (List Nat)) (w : World) (hp : p < 18446744073709551616) (h1 : -9223372036854775808 ≤ t) (h2 : t ≤ 9223372036854775807) (hv : Mat w v m) (hv2 : Mat w v2 m2) :
    Calls Try.prog 16 #[.int .u64 p, .int .i64 t, .slice (some ⟨w.heap.size, 0, none⟩) 2 2] (w.alloc (.cells #[v, v2] 23)) fun e w' => e = .returned (.int .i64 (if M.pchk p t m = 0 then M.pchk p t m2 else M.pchk p t m)) ∧ Below w.heap.size w w' := by
  have hh := heap_alloc_new w (.cells #[v, v2] 23)
  refine (rcheck6_any p w.heap.size 2 t (fun i => if i = 0 then v else v2) (fun i => if i = 0 then m else m2) _ hp h1 h2 (by omega) (by simp) (fun i hi => ?_) (fun i hi => ?_)).mono ?_
  · rw [cell_of_row _ _ i _ _ (0, 0) hh]
    match i, hi with
    | 0, _ => rfl
    | 1, _ => rfl
  · match i, hi with
    | 0, _ => exact hv.below (balloc w _)
    | 1, _ => exact hv2.below (balloc w _)
  · rintro e w' ⟨rfl, hb⟩
    refine ⟨?_, bnext (balloc w _) hb⟩
    unfold M.pchkl M.pchk
    by_cases h : M.bnd p t = 0
    · simp [h, M.pfrms]
    · simp [h]
end Go.Proofs.Ytglehjcohdjhoaa
