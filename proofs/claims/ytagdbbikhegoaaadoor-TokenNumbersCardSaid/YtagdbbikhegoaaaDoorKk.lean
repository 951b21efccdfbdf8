/-
  Tokens: the reference's Digits.
-/
import Derived.Test.YtagdbbikhegoaaaDoorKc
namespace Go.Proofs.YtagdbbikhegoaaaDoor
open Go.RowKit
set_option linter.unusedVariables false
set_option maxRecDepth 100000
namespace M
/-- a number in decimal -/
def digitsL (n : Nat) : List Nat := if n < 10 then [48 + n] else digitsL (n / 10) ++ [48 + n % 10]
/-- the digits ahead of those that are written -/
def leadL (n : Nat) : List Nat := if n = 0 then [] else digitsL n
theorem leadL_step {n : Nat} (h : n ≠ 0) : leadL n = leadL (n / 10) ++ [48 + n % 10] := by
  unfold leadL
  rw [if_neg h]
  by_cases h1 : n < 10
  · rw [if_pos (by omega), digitsL, if_pos h1, show n % 10 = n by omega]; rfl
  · rw [if_neg (by omega), digitsL, if_neg h1]
theorem digitsL_step (n : Nat) : digitsL n = leadL (n / 10) ++ [48 + n % 10] := by
  by_cases h : n = 0
  · subst h; rw [digitsL, if_pos (by decide)]; rfl
  · have := leadL_step h; unfold leadL at this; rw [if_neg h] at this; exact this
theorem digitsL_len (n : Nat) : (digitsL n).length ≤ n / 10 + 1 := by
  induction n using Nat.strongRecOn with
  | ind n ih =>
    rw [digitsL]
    by_cases h : n < 10
    · rw [if_pos h]; simp
    · rw [if_neg h]
      have := ih (n / 10) (by omega)
      simp only [List.length_append, List.length_cons, List.length_nil]
      omega
theorem bs_append (s t : ByteArray) : bs (s ++ t) = bs s ++ bs t := by
  unfold bs
  simp [ByteArray.data_append]
end M
/-- a digit as a string -/
def digS (m : Nat) : ByteArray := ⟨#[UInt8.ofNat (48 + m % 10)]⟩
theorem conv_digit (m : Nat) (W : World) : (convert 33 9 (.slice (some ⟨W.heap.size, 0, none⟩) 1 1)).run Tryd.prog (W.alloc (.cells #[.int .u8 (48 + (m : Int) % 10)] 5)) = .ok (.string (digS m)) (W.alloc (.cells #[.int .u8 (48 + (m : Int) % 10)] 5)) := by
  refine run_convert_bytes_back (P := Tryd.prog) _ _ _ 5 ⟨W.heap.size, 0, none⟩ 1 [UInt8.ofNat (48 + m % 10)] (by kernel_rfl) (by kernel_rfl) (by kernel_rfl) fun j hj => ?_
  have h0 : j = 0 := by simpa using hj
  subst h0
  have h1 : (UInt8.ofNat (48 + m % 10)).toNat = 48 + m % 10 := by rw [UInt8.toNat_ofNat']; omega
  simp only [List.getElem_cons_zero, h1]
  show (W.alloc (.cells #[.int .u8 (48 + (m : Int) % 10)] 5)).cell? ⟨W.heap.size, 0, none⟩ = _
  simp
theorem M.bs_digit (m : Nat) : M.bs (digS m) = [48 + m % 10] := by
  have h1 : (UInt8.ofNat (48 + m % 10)).toNat = 48 + m % 10 := by rw [UInt8.toNat_ofNat']; omega
  show [(UInt8.ofNat (48 + m % 10)).toNat] = _
  rw [h1]
set_option maxHeartbeats 4000000 in
theorem rdigits_any (n : Nat) (w : World) (hn : n < 18446744073709551616) : Calls Tryd.prog 8 #[.int .u64 n] w fun e w' => ∃ T : ByteArray, e = .returned (.string T) ∧ M.bs T = M.digitsL n ∧ Below w.heap.size w w' := by
  have hud : ∀ b : Bool, undef ≠ Value.bool b := fun b h => by cases h
  have hw0 : IntKind.u64.wrap (48 + (n : Int) % 10) = 48 + (n : Int) % 10 := by rw [IntKind.wrap_u64]; omega
  have hw1 : IntKind.u8.wrap (48 + (n : Int) % 10) = 48 + (n : Int) % 10 := by rw [IntKind.wrap_u8]; omega
  have CV := conv_digit n
  go_enter Tryd.func8, Tryd.ntmps8
  go_wp2_with fail
  have hB0 : Below w.heap.size w (w.alloc (.cells #[.int .u8 (48 + (n : Int) % 10)] 5)) := (Below.refl _ _).alloc (Nat.le_refl _) _
  have HS := Lib.hid (M.digitsL_step n)
  clear CV hw0 hw1
  go_loopw [0, 3] (fun tn ts wr => ∃ (k : Nat) (T : ByteArray), k ≤ n ∧ tn = .int .u64 k ∧ ts = .string T ∧ M.leadL k ++ M.bs T = M.digitsL n ∧ Below w.heap.size w wr) (fun tn _ _ => (intOf tn).toNat)
  case atStart => exact ⟨n / 10, digS n, by omega, by go_num, rfl, by rw [HS.out, M.bs_digit], hB0⟩
  case round =>
    obtain ⟨k, T, hk, rfl, rfl, hT, hB⟩ := hrel
    have HT := Lib.hid hT
    have HB := Lib.hid hB
    clear hT hB hB0
    by_cases h0 : k = 0
    · subst h0
      have HT0 := Lib.hid (show M.bs T = M.digitsL n by have := HT.out; simpa [M.leadL] using this)
      go_wp2_with fail
      go_ret
      exact ⟨T, rfl, HT0.out, HB.out⟩
    · have CV := conv_digit k
      have hw0 : IntKind.u64.wrap (48 + (k : Int) % 10) = 48 + (k : Int) % 10 := by rw [IntKind.wrap_u64]; omega
      have hw1 : IntKind.u8.wrap (48 + (k : Int) % 10) = 48 + (k : Int) % 10 := by rw [IntKind.wrap_u8]; omega
      have hTl : T.size ≤ n / 10 + 1 := by have h1 := congrArg List.length HT.out; have h2 := M.digitsL_len n; rw [List.length_append, M.bs_len] at h1; omega
      have hsz : (digS k).size + T.size ≤ 9223372036854775807 := by rw [show (digS k).size = 1 from rfl]; omega
      have hpos : 0 < (k : Int) := by omega
      have HB1 := Lib.hid ((HB.out.alloc (HB.out.size) (.cells #[.int .u8 (48 + (k : Int) % 10)] 5)))
      have HL := Lib.hid (show M.leadL (k / 10) ++ M.bs (digS k ++ T) = M.digitsL n by rw [M.bs_append, M.bs_digit, ← List.append_assoc, ← M.leadL_step h0]; exact HT.out)
      clear h0 hTl
      go_wp2_with fail
      go_roundw
      case rel => exact ⟨k / 10, digS k ++ T, by omega, by go_num, rfl, HL.out, HB1.out⟩
      case measure => simp [intOf]; omega
end Go.Proofs.YtagdbbikhegoaaaDoor
