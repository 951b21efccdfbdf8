/-
  Contracts: slices.Contains at 0.
-/
import Derived.Test.YtafoonhmfieikaaRef1
namespace Go.Proofs.Ytafoonhmfieikaa
open Go.RowKit
set_option linter.unusedVariables false

def NoZero (zs : List Nat) (k : Nat) : Prop := ∀ i, i < k → zs.getD i 0 ≠ 0
/-- what Index answers: a place at which 0 stands, or -1 and there is none -/
def Found (zs : List Nat) (e : Ending) : Prop := (∃ k : Nat, k < zs.length ∧ zs.getD k 0 = 0 ∧ e = .returned (.int .i64 k)) ∨ (NoZero zs zs.length ∧ e = .returned (.int .i64 (-1)))

set_option maxHeartbeats 1000000 in
theorem index_cells (b off cap : Nat) (zs : List Nat) (w : World) (hl : zs.length ≤ 17592186043904) (hcell : ∀ i, i < zs.length → w.cell? ⟨b, off + i, none⟩ = some (.int .u64 (zs.getD i 0))) :
    Calls Try.prog 97 #[.slice (some ⟨b, off, none⟩) zs.length cap, .int .u64 0] w fun e w' => Found zs e ∧ w = w' := by
  have HC := Lib.hid hcell
  clear hcell
  go_enter Try.func97, Try.ntmps97
  go_wp2_with fail
  go_loop [8] (fun t => ∃ k : Nat, k ≤ zs.length ∧ t = .int .i64 k ∧ NoZero zs k) (fun t => zs.length - (intOf t).toNat)
  case atStart => exact ⟨0, by omega, rfl, fun i hi => by omega⟩
  case round =>
    obtain ⟨k, hk, rfl, hn⟩ := hrel
    have HN := Lib.hid hn
    clear hn
    by_cases hlt : k < zs.length
    · have hc := HC.out k hlt
      obtain ⟨x, hx⟩ : ∃ x, x = zs.getD k 0 := ⟨_, rfl⟩
      rw [← hx] at hc
      have HX := Lib.hid hx
      clear hx
      by_cases h0 : x = 0
      · have hb : ((0 : Int) == (x : Int)) = true := by simp; omega
        have H0 := Lib.hid h0
        clear h0
        go_wp2_with fail
        go_ret
        exact ⟨.inl ⟨k, hlt, by rw [← HX.out]; exact H0.out, rfl⟩, rfl⟩
      · have hb : ((0 : Int) == (x : Int)) = false := by simp; omega
        have H0 := Lib.hid h0
        clear h0
        go_wp2_with fail
        go_round
        case rel =>
          refine ⟨k + 1, by omega, by go_num, ?_⟩
          intro i hi
          by_cases he : i = k
          · subst he; rw [← HX.out]; exact H0.out
          · exact HN.out i (by omega)
        case measure => simp [intOf]; omega
    · obtain rfl : k = zs.length := by omega
      go_wp2_with fail
      go_ret
      exact ⟨.inr ⟨HN.out, rfl⟩, rfl⟩
set_option maxHeartbeats 1000000 in
theorem index_none (cap : Nat) (a : Option Addr) (w : World) :
    Calls Try.prog 97 #[.slice a 0 cap, .int .u64 0] w fun e w' => Found [] e ∧ w = w' := by
  go_enter Try.func97, Try.ntmps97
  go_wp2_with fail
  go_loop [8] (fun t => t = .int .i64 0) (fun _ => 0)
  case atStart => rfl
  case round =>
    obtain rfl := hrel
    go_wp2_with fail
    go_ret
    exact ⟨.inr ⟨fun i hi => by simp at hi, rfl⟩, rfl⟩
theorem index_any (v : Value) (zs : List Nat) (w : World) (hN : Nums w v zs) :
    Calls Try.prog 97 #[v, .int .u64 0] w fun e w' => Found zs e ∧ w = w' := by
  obtain ⟨h1, h2, h3⟩ := hN
  rcases h3 with ⟨a, cap, rfl, rfl, _⟩ | ⟨b, off, cap, rfl, hc, hb, hcell⟩
  · exact index_none cap a w
  · exact index_cells b off cap zs w h2 hcell
set_option maxHeartbeats 1000000 in
theorem contains_yes (v : Value) (zs : List Nat) (w : World) (hN : Nums w v zs) (h : ¬ NoZero zs zs.length) :
    Calls Try.prog 91 #[v, .int .u64 0] w fun e w' => e = .returned (.bool true) ∧ w = w' := by
  have HI := Lib.hid (index_any v zs w hN)
  have HH := Lib.hid h
  clear h hN
  go_enter Try.func91, Try.ntmps91
  go_wp2_with fail
  refine HI.out.mono ?_
  rintro e w' ⟨hf, rfl⟩
  rcases hf with ⟨k, hk, h0, rfl⟩ | ⟨hn, rfl⟩
  · have hk0 : (0 : Int) ≤ (k : Int) := by omega
    clear h0
    go_wp2_with fail
    go_ret
    exact ⟨by first | rfl | simp, rfl⟩
  · exact absurd hn HH.out
set_option maxHeartbeats 1000000 in
theorem contains_no (v : Value) (zs : List Nat) (w : World) (hN : Nums w v zs) (h : NoZero zs zs.length) :
    Calls Try.prog 91 #[v, .int .u64 0] w fun e w' => e = .returned (.bool false) ∧ w = w' := by
  have HI := Lib.hid (index_any v zs w hN)
  have HH := Lib.hid h
  clear h hN
  go_enter Try.func91, Try.ntmps91
  go_wp2_with fail
  refine HI.out.mono ?_
  rintro e w' ⟨hf, rfl⟩
  rcases hf with ⟨k, hk, h0, rfl⟩ | ⟨hn, rfl⟩
  · exact absurd h0 (HH.out k hk)
  · clear hn
    go_wp2_with fail
    go_ret
    exact ⟨by first | rfl | simp, rfl⟩
end Go.Proofs.Ytafoonhmfieikaa
