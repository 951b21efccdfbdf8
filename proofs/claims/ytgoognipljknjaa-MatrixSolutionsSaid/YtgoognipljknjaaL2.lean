/-
  Check of the reference, of one matrix and of two.
-/
import Derived.Test.YtgoognipljknjaaL1
namespace Go.Proofs.Ytgoognipljknjaa
open Go.RowKit
set_option linter.unusedVariables false
set_option maxRecDepth 100000

namespace M
def frms (p : Nat) (ms : Nat → List (List Nat)) : Nat → Int
  | 0 => 0
  | k + 1 => if frms p ms k = 0 then frm p (ms k) else frms p ms k
theorem frms_stop {p : Nat} {ms : Nat → List (List Nat)} {k : Nat} (h : frms p ms k = 0) (hk : frm p (ms k) ≠ 0) : ∀ n, k < n → frms p ms n = frm p (ms k)
  | 0, hn => absurd hn (by omega)
  | n + 1, hn => by
    unfold frms
    by_cases e : k = n
    · subst e; rw [if_pos h]
    · have := frms_stop h hk n (by omega)
      rw [this, if_neg hk]
theorem frms_next {p : Nat} {ms : Nat → List (List Nat)} {k : Nat} (h : frms p ms k = 0) (hk : frm p (ms k) = 0) : frms p ms (k + 1) = 0 := by unfold frms; rw [if_pos h, hk]
def chkl (p : Nat) (ms : Nat → List (List Nat)) (n : Nat) : Int := if isP p = true then frms p ms n else 2
end M

set_option maxHeartbeats 1000000 in
theorem rcheck_any (p b n : Nat) (vs : Nat → Value) (ms : Nat → List (List Nat)) (w : World) (hp : p < 18446744073709551616) (hn : n ≤ 10) (hc : ∀ i, i < n → w.cell? ⟨b, i, none⟩ = some (vs i)) (hv : ∀ i, i < n → Mat w (vs i) (ms i)) :
    Calls Try.prog 15 #[.int .u64 p, .slice (some ⟨b, 0, none⟩) n n] w fun e w' => e = .returned (.int .i64 (M.chkl p ms n)) ∧ w = w' := by
  have HC := Lib.hid hc
  have HV := Lib.hid hv
  have hi := refIs_any p w hp
  clear hc hv
  cases h : M.isP p with
  | false =>
    rw [h] at hi
    have HI := Lib.hid hi
    have HH := Lib.hid h
    clear hi h hp
    go_enter Try.func15, Try.ntmps15
    go_wp2_with fail
    refine HI.out.mono ?_
    rintro e w' ⟨rfl, rfl⟩
    go_wp2_with fail
    go_ret
    exact ⟨ret1 (by unfold M.chkl; rw [if_neg (by rw [HH.out]; simp)]), rfl⟩
  | true =>
    rw [h] at hi
    have HI := Lib.hid hi
    have HH := Lib.hid h
    clear hi h hp
    go_enter Try.func15, Try.ntmps15
    go_wp2_with fail
    refine HI.out.mono ?_
    rintro e w' ⟨rfl, rfl⟩
    go_wp2_with fail
    go_loop [13] (fun t => ∃ k : Nat, k ≤ n ∧ t = .int .i64 k ∧ M.frms p ms k = 0) (fun t => n - (intOf t).toNat)
    case atStart => exact ⟨0, by omega, rfl, rfl⟩
    case round =>
      obtain ⟨k, hk, rfl, hz⟩ := hrel
      have HZ := Lib.hid hz
      clear hz
      by_cases hlt : k < n
      · have ck := HC.out k hlt
        have hm := HV.out k hlt
        obtain ⟨v, ev⟩ : ∃ v, vs k = v := ⟨_, rfl⟩
        rw [ev] at ck hm
        have HF := Lib.hid (rform_any p v _ w hm)
        obtain ⟨A, cap, rfl, _⟩ := mat_view hm
        obtain ⟨L, eL⟩ : ∃ L, (ms k).length = L := ⟨_, rfl⟩
        rw [eL] at ck HF
        obtain ⟨c, ec⟩ : ∃ c, M.frm p (ms k) = c := ⟨_, rfl⟩
        rw [ec] at HF
        have EC := Lib.hid ec
        clear hm ev eL ec
        by_cases h0 : c = 0
        · have hb : (c != 0) = false := by simp [h0]
          have H0 := Lib.hid h0
          clear h0
          go_wp2_with fail
          refine HF.out.mono ?_
          rintro e w' ⟨rfl, rfl⟩
          go_wp2_with fail
          go_round
          case rel => exact ⟨k + 1, by omega, by go_num, M.frms_next HZ.out (by rw [EC.out]; exact H0.out)⟩
          case measure => simp [intOf]; omega
        · have hb : (c != 0) = true := by rw [bne_iff_ne]; exact h0
          have H0 := Lib.hid h0
          clear h0
          go_wp2_with fail
          refine HF.out.mono ?_
          rintro e w' ⟨rfl, rfl⟩
          go_wp2_with fail
          go_ret
          exact ⟨ret1 (by unfold M.chkl; rw [if_pos HH.out, M.frms_stop HZ.out (by rw [EC.out]; exact H0.out) n hlt, EC.out]), rfl⟩
      · obtain rfl : k = n := by omega
        go_wp2_with fail
        go_ret
        exact ⟨ret1 (by unfold M.chkl; rw [if_pos HH.out, HZ.out]), rfl⟩

theorem rcheck_one (p : Nat) (v : Value) (m : List (List Nat)) (w : World) (hp : p < 18446744073709551616) (hv : Mat w v m) :
    Calls Try.prog 15 #[.int .u64 p, .slice (some ⟨w.heap.size, 0, none⟩) 1 1] (w.alloc (.cells #[v] 23)) fun e w' => e = .returned (.int .i64 (M.chkm p m)) ∧ Below w.heap.size w w' := by
  have hh := heap_alloc_new w (.cells #[v] 23)
  refine (rcheck_any p w.heap.size 1 (fun _ => v) (fun _ => m) _ hp (by omega) (fun i hi => ?_) (fun i hi => hv.below (balloc w _))).mono ?_
  · obtain rfl : i = 0 := by omega
    rw [cell_of_row _ _ 0 _ _ (0, 0) hh]; rfl
  · rintro e w' ⟨rfl, rfl⟩
    refine ⟨by unfold M.chkl M.chkm; rfl, balloc w _⟩
theorem rcheck_two (p : Nat) (v v2 : Value) (m m2 : List (List Nat)) (w : World) (hp : p < 18446744073709551616) (hv : Mat w v m) (hv2 : Mat w v2 m2) :
    Calls Try.prog 15 #[.int .u64 p, .slice (some ⟨w.heap.size, 0, none⟩) 2 2] (w.alloc (.cells #[v, v2] 23)) fun e w' => e = .returned (.int .i64 (if M.chkm p m = 0 then M.chkm p m2 else M.chkm p m)) ∧ Below w.heap.size w w' := by
  have hh := heap_alloc_new w (.cells #[v, v2] 23)
  refine (rcheck_any p w.heap.size 2 (fun i => if i = 0 then v else v2) (fun i => if i = 0 then m else m2) _ hp (by omega) (fun i hi => ?_) (fun i hi => ?_)).mono ?_
  · rw [cell_of_row _ _ i _ _ (0, 0) hh]
    match i, hi with
    | 0, _ => rfl
    | 1, _ => rfl
  · match i, hi with
    | 0, _ => exact hv.below (balloc w _)
    | 1, _ => exact hv2.below (balloc w _)
  · rintro e w' ⟨rfl, rfl⟩
    refine ⟨?_, balloc w _⟩
    unfold M.chkl M.chkm
    cases h : M.isP p with
    | false => simp
    | true => simp [M.frms]
end Go.Proofs.Ytgoognipljknjaa
