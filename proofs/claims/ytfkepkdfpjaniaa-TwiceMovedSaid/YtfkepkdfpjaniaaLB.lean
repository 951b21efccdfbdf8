/-
  Ops, Quot, Clone, Same, Ref1 (joined).
-/
import Derived.Test.YtfkepkdfpjaniaaLA
import Derived.ArgAppend
import Derived.OwnWalk
import Derived.BigQuiet
import Derived.Deep.QuietTactic
import Derived.Deep.Draws
namespace Go.Proofs.Ytfkepkdfpjaniaa
open Go.RowKit

theorem ret2 {a b : Int} {k : IntKind} {c d : Int} (h : a = c) (h2 : b = d) : Ending.returned (.tuple #[.int k a, .int .i64 b]) = .returned (.tuple #[.int k c, .int .i64 d]) := by rw [h, h2]
theorem ret1 {k : IntKind} {a c : Int} (h : a = c) : Ending.returned (.int k a) = .returned (.int k c) := by rw [h]
theorem mul_le {p a b : Nat} (hp : p ≤ 65537) (ha : a < p) (hb : b < p) : (a : Int) * b ≤ 4295098369 ∧ 0 ≤ (a : Int) * b := by
  have : a * b ≤ 65537 * 65537 := Nat.mul_le_mul (by omega) (by omega)
  omega

set_option maxHeartbeats 400000 in
theorem add_ok (p a b : Nat) (w : World) (hv : M.validB p [a, b] = true) :
    Calls Try.prog 105 #[.int .u64 p, .int .u64 a, .int .u64 b] w fun e w' => e = .returned (.tuple #[.int .u64 ((a + b) % p : Nat), .int .i64 0]) ∧ Below w.heap.size w w' := by
  obtain ⟨hi, ha, hb⟩ := M.valid2_iff.1 hv
  obtain ⟨h3, hp⟩ := M.pos_of hi
  have HC := Lib.hid (valid2 p a b w (by omega) (by omega) (by omega) hv)
  clear hv hi
  go_enter Try.func105, Try.ntmps105
  go_wp2_with (go_at_call 80; refine HC.out.mono ?_; rintro e w' ⟨rfl, rfl⟩)
  go_ret2
  exact ⟨ret2 (by rw [Int.natCast_emod, Int.natCast_add]) rfl, (Below.refl _ _).alloc (Nat.le_refl _) _⟩

set_option maxHeartbeats 400000 in
theorem add_bad (p a b : Nat) (w : World) (hp : p < 18446744073709551616) (ha : a < 18446744073709551616) (hb : b < 18446744073709551616) (hv : M.validB p [a, b] = false) :
    Calls Try.prog 105 #[.int .u64 p, .int .u64 a, .int .u64 b] w fun e w' => e = .returned (.tuple #[.int .u64 0, .int .i64 2]) ∧ Below w.heap.size w w' := by
  have HC := Lib.hid (valid2 p a b w hp ha hb hv)
  clear hv hp ha hb
  go_enter Try.func105, Try.ntmps105
  go_wp2_with (go_at_call 80; refine HC.out.mono ?_; rintro e w' ⟨rfl, rfl⟩)
  go_ret2
  exact ⟨rfl, (Below.refl _ _).alloc (Nat.le_refl _) _⟩

set_option maxHeartbeats 400000 in
theorem sub_ok (p a b : Nat) (w : World) (hv : M.validB p [a, b] = true) :
    Calls Try.prog 109 #[.int .u64 p, .int .u64 a, .int .u64 b] w fun e w' => e = .returned (.tuple #[.int .u64 ((a + p - b) % p : Nat), .int .i64 0]) ∧ Below w.heap.size w w' := by
  obtain ⟨hi, ha, hb⟩ := M.valid2_iff.1 hv
  obtain ⟨h3, hp⟩ := M.pos_of hi
  have HC := Lib.hid (valid2 p a b w (by omega) (by omega) (by omega) hv)
  clear hv hi
  go_enter Try.func109, Try.ntmps109
  go_wp2_with (go_at_call 80; refine HC.out.mono ?_; rintro e w' ⟨rfl, rfl⟩)
  go_ret2
  exact ⟨ret2 (by rw [Int.natCast_emod, Int.natCast_sub (by omega)]; rfl) rfl, (Below.refl _ _).alloc (Nat.le_refl _) _⟩

set_option maxHeartbeats 400000 in
theorem sub_bad (p a b : Nat) (w : World) (hp : p < 18446744073709551616) (ha : a < 18446744073709551616) (hb : b < 18446744073709551616) (hv : M.validB p [a, b] = false) :
    Calls Try.prog 109 #[.int .u64 p, .int .u64 a, .int .u64 b] w fun e w' => e = .returned (.tuple #[.int .u64 0, .int .i64 2]) ∧ Below w.heap.size w w' := by
  have HC := Lib.hid (valid2 p a b w hp ha hb hv)
  clear hv hp ha hb
  go_enter Try.func109, Try.ntmps109
  go_wp2_with (go_at_call 80; refine HC.out.mono ?_; rintro e w' ⟨rfl, rfl⟩)
  go_ret2
  exact ⟨rfl, (Below.refl _ _).alloc (Nat.le_refl _) _⟩

set_option maxHeartbeats 400000 in
theorem power_any (p a e : Nat) (w : World) (h2 : 2 ≤ p) (hp : p ≤ 65537) (ha : a < p) (he : e < 18446744073709551616) :
    Calls Try.prog 119 #[.int .u64 p, .int .u64 a, .int .u64 e] w fun e' w' => e' = .returned (.int .u64 (M.pw p a e)) ∧ w = w' := by
  go_enter Try.func119, Try.ntmps119
  go_wp2
  go_loop [1, 2, 7] (fun tx tn tr => ∃ r x n : Nat, r < p ∧ x < p ∧ n ≤ e ∧ tr = .int .u64 r ∧ tx = .int .u64 x ∧ tn = .int .u64 n ∧ M.PowInv p a e r x n) (fun _ tn _ => (intOf tn).toNat)
  case atStart => exact ⟨1, a, e, by omega, ha, by omega, rfl, rfl, rfl, by simp [M.PowInv]⟩
  case round =>
    obtain ⟨r, x, n, hr, hx, hn, rfl, rfl, rfl, hinv⟩ := hrel
    obtain ⟨m1, m2⟩ := mul_le hp hr hx
    obtain ⟨m3, m4⟩ := mul_le hp hx hx
    have HI := Lib.hid hinv
    clear hinv
    by_cases h0 : n = 0
    · subst h0
      go_wp2
      go_ret
      exact ⟨ret1 (by rw [M.pw_of_inv HI.out hr]), rfl⟩
    · by_cases ho : n % 2 = 1
      · have hb : ((n : Int) % 2 == 1) = true := by simp; omega
        have HO := Lib.hid ho
        clear ho
        go_wp2
        go_round
        case rel =>
          have e1 : (r : Int) * x % p = ((r * x % p : Nat) : Int) := by rw [Int.natCast_emod, Int.natCast_mul]
          have e2 : (x : Int) * x % p = ((x * x % p : Nat) : Int) := by rw [Int.natCast_emod, Int.natCast_mul]
          exact ⟨r * x % p, x * x % p, n / 2, Nat.mod_lt _ (by omega), Nat.mod_lt _ (by omega), by omega, by rw [e1], by rw [e2], by go_num, M.powInv_odd HI.out HO.out⟩
        case measure => simp [intOf]; omega
      · have hb : ((n : Int) % 2 == 1) = false := by simp; omega
        have HO : Hid (n % 2 = 0) := Lib.hid (by omega)
        clear ho
        go_wp2
        go_round
        case rel =>
          have e2 : (x : Int) * x % p = ((x * x % p : Nat) : Int) := by rw [Int.natCast_emod, Int.natCast_mul]
          exact ⟨r, x * x % p, n / 2, hr, Nat.mod_lt _ (by omega), by omega, rfl, by rw [e2], by go_num, M.powInv_even HI.out HO.out⟩
        case measure => simp [intOf]; omega
end Go.Proofs.Ytfkepkdfpjaniaa
namespace Go.Proofs.Ytfkepkdfpjaniaa
open Go.RowKit
set_option linter.unusedVariables false

namespace M
theorem valid_one {p a : Nat} : validB p [1, a] = validB p [a] := by
  unfold validB
  cases hi : isP p with
  | false => rfl
  | true => have := pos_of hi; simp [within]; omega
theorem one_pw {p x : Nat} (h : x < p) : 1 * x % p = x := by rw [Nat.one_mul, Nat.mod_eq_of_lt h]
end M

set_option maxHeartbeats 400000 in
theorem inverse_any (p a : Nat) (w : World) (h3 : 3 ≤ p) (hp : p ≤ 65537) (ha : a < p) :
    Calls Try.prog 118 #[.int .u64 p, .int .u64 a] w fun e' w' => e' = .returned (.int .u64 (M.pw p a (p - 2))) ∧ w = w' := by
  have h := power_any p a (p - 2) w (by omega) hp ha (by omega)
  have e : (((p - 2 : Nat)) : Int) = (p : Int) - 2 := by omega
  rw [e] at h
  have HC := Lib.hid h
  clear h e
  go_enter Try.func118, Try.ntmps118
  go_wp2_with (go_at_call 119; refine HC.out.mono ?_; rintro e w' ⟨rfl, rfl⟩)
  go_ret
  exact ⟨rfl, rfl⟩

set_option maxHeartbeats 400000 in
theorem div_ok (p a b : Nat) (w : World) (hv : M.validB p [a, b] = true) (h0 : b ≠ 0) :
    Calls Try.prog 117 #[.int .u64 p, .int .u64 a, .int .u64 b] w fun e w' => e = .returned (.tuple #[.int .u64 (a * M.pw p b (p - 2) % p : Nat), .int .i64 0]) ∧ Below w.heap.size w w' := by
  obtain ⟨hi, ha, hb⟩ := M.valid2_iff.1 hv
  obtain ⟨h3, hp⟩ := M.pos_of hi
  have HC := Lib.hid (valid2 p a b w (by omega) (by omega) (by omega) hv)
  have hl := M.pw_lt (p := p) b (p - 2) (by omega)
  have HD := Lib.hid (inverse_any p b (w.alloc (.cells #[.int .u64 a, .int .u64 b] 22)) h3 hp hb)
  obtain ⟨q, hq⟩ : ∃ q, q = M.pw p b (p - 2) := ⟨_, rfl⟩
  rw [← hq] at HD hl ⊢
  obtain ⟨m1, m2⟩ := mul_le hp ha hl
  have hz : ((b : Int) == 0) = false := by simp; omega
  clear hv hi hq
  go_enter Try.func117, Try.ntmps117
  go_wp2_with (first | (go_at_call 80; refine HC.out.mono ?_; rintro e w' ⟨rfl, rfl⟩) | (go_at_call 118; refine HD.out.mono ?_; rintro e w' ⟨rfl, rfl⟩))
  go_ret2
  exact ⟨ret2 (by rw [Int.natCast_emod, Int.natCast_mul]) rfl, (Below.refl _ _).alloc (Nat.le_refl _) _⟩

set_option maxHeartbeats 400000 in
theorem div_zero (p a : Nat) (w : World) (hv : M.validB p [a, 0] = true) :
    Calls Try.prog 117 #[.int .u64 p, .int .u64 a, .int .u64 0] w fun e w' => e = .returned (.tuple #[.int .u64 0, .int .i64 7]) ∧ Below w.heap.size w w' := by
  obtain ⟨hi, ha, hb⟩ := M.valid2_iff.1 hv
  obtain ⟨h3, hp⟩ := M.pos_of hi
  have HC := Lib.hid (valid2 p a 0 w (by omega) (by omega) (by omega) hv)
  clear hv hi
  go_enter Try.func117, Try.ntmps117
  go_wp2_with (go_at_call 80; refine HC.out.mono ?_; rintro e w' ⟨rfl, rfl⟩)
  go_ret2
  exact ⟨rfl, (Below.refl _ _).alloc (Nat.le_refl _) _⟩

set_option maxHeartbeats 400000 in
theorem div_bad (p a b : Nat) (w : World) (hp : p < 18446744073709551616) (ha : a < 18446744073709551616) (hb : b < 18446744073709551616) (hv : M.validB p [a, b] = false) :
    Calls Try.prog 117 #[.int .u64 p, .int .u64 a, .int .u64 b] w fun e w' => e = .returned (.tuple #[.int .u64 0, .int .i64 2]) ∧ Below w.heap.size w w' := by
  have HC := Lib.hid (valid2 p a b w hp ha hb hv)
  clear hv hp ha hb
  go_enter Try.func117, Try.ntmps117
  go_wp2_with (go_at_call 80; refine HC.out.mono ?_; rintro e w' ⟨rfl, rfl⟩)
  go_ret2
  exact ⟨rfl, (Below.refl _ _).alloc (Nat.le_refl _) _⟩

/-- a call that hands on the two results of another -/
theorem inv_of (p b : Nat) (w : World) (r : Int) (c : Int)
    (h : Calls Try.prog 117 #[.int .u64 p, .int .u64 1, .int .u64 b] w fun e w' => e = .returned (.tuple #[.int .u64 r, .int .i64 c]) ∧ Below w.heap.size w w') :
    Calls Try.prog 116 #[.int .u64 p, .int .u64 b] w fun e w' => e = .returned (.tuple #[.int .u64 r, .int .i64 c]) ∧ Below w.heap.size w w' := by
  have HC := Lib.hid h
  clear h
  go_enter Try.func116, Try.ntmps116
  go_wp2_with (go_at_call 117; refine HC.out.mono ?_; rintro e w' ⟨rfl, hb⟩)
  go_ret2
  exact ⟨rfl, by assumption⟩

theorem inv_ok (p b : Nat) (w : World) (hv : M.validB p [b] = true) (h0 : b ≠ 0) :
    Calls Try.prog 116 #[.int .u64 p, .int .u64 b] w fun e w' => e = .returned (.tuple #[.int .u64 (M.pw p b (p - 2)), .int .i64 0]) ∧ Below w.heap.size w w' := by
  have h := div_ok p 1 b w (by rw [M.valid_one]; exact hv) h0
  have h3 := M.pos_of (M.validB_isP hv)
  rw [M.one_pw (M.pw_lt _ _ (by omega))] at h
  exact inv_of p b w _ _ h
theorem inv_zero (p : Nat) (w : World) (hv : M.validB p [0] = true) :
    Calls Try.prog 116 #[.int .u64 p, .int .u64 0] w fun e w' => e = .returned (.tuple #[.int .u64 0, .int .i64 7]) ∧ Below w.heap.size w w' :=
  inv_of p 0 w _ _ (div_zero p 1 w (by rw [M.valid_one]; exact hv))
theorem inv_bad (p b : Nat) (w : World) (hp : p < 18446744073709551616) (hb : b < 18446744073709551616) (hv : M.validB p [b] = false) :
    Calls Try.prog 116 #[.int .u64 p, .int .u64 b] w fun e w' => e = .returned (.tuple #[.int .u64 0, .int .i64 2]) ∧ Below w.heap.size w w' :=
  inv_of p b w _ _ (div_bad p 1 b w hp (by omega) hb (by rw [M.valid_one]; exact hv))

end Go.Proofs.Ytfkepkdfpjaniaa
namespace Go.Proofs.Ytfkepkdfpjaniaa
open Go.RowKit
set_option linter.unusedVariables false

/-- a call hands back a slice that reads as zs; nothing that was there has turned -/
def Gives (w : World) (zs : List Nat) (e : Ending) (w' : World) : Prop := ∃ v', e = .returned v' ∧ Nums w' v' zs ∧ Below w.heap.size w w'

theorem infoU64 : (Try.prog.info? 22).map (fun i => (i.zero, i.size, i.bytes)) = some (some (.int .u64 0), 1, 8) := by kernel_rfl

set_option maxHeartbeats 400000 in
theorem clone_nil (cap : Nat) (w : World) :
    Calls Try.prog 81 #[.slice none 0 cap] w fun e w' => e = .returned (.slice none 0 0) ∧ w = w' := by
  have h1 := Lib.run_eql_slice_nil (P := Try.prog) w 31 22 none 0 cap 0 0 Try.underlying31
  go_enter Try.func81, Try.ntmps81
  go_wp2
  go_ret
  exact ⟨rfl, rfl⟩

set_option maxHeartbeats 400000 in
theorem clone_some (x : Addr) (zs : List Nat) (cap : Nat) (w : World) (hl : zs.length ≤ 17592186043904) (hz : ∀ n ∈ zs, n < 18446744073709551616)
    (hcell : ∀ j u, (zs.map fun (z : Nat) => Value.int .u64 z)[j]? = some u → w.cell? (x.add j) = some u) :
    Calls Try.prog 81 #[.slice (some x) zs.length cap] w (Gives w zs) := by
  have h1 := Lib.run_eql_slice_nil (P := Try.prog) w 31 22 (some x) zs.length cap 0 0 Try.underlying31
  obtain ⟨i0, hi, hz0, hz1, hz2⟩ := info_parts infoU64
  have HC := Lib.hid hcell
  have HL := Lib.hid hl
  have HZ := Lib.hid hz
  clear hcell hl hz
  go_enter Try.func81, Try.ntmps81
  go_wp2_with (at_builtin; refine wpList_append_own _ rfl _ _ 31 rfl w.heap.size 22 i0 (.int .u64 0) 1 8 Try.underlying31 hi hz0 hz1 hz2 rfl (by decide) _ _ _ rfl (World.ownsRow_made w #[] 0 (Nat.le_refl _) (by decide) rfl) x zs.length cap (zs.map fun (z : Nat) => Value.int .u64 z) rfl ?c0 ?c1 ?c2 ?c3 ?c4 ?c5 ?_)
  case c0 => simp
  case c1 =>
    intro j u hu
    have h := HC.out j u hu
    exact (Below.cell (Below.alloc (Below.refl _ _) (Nat.le_refl _) _) (World.block_lt_of_cell? w _ h)).trans h
  case c2 => intro u hu; simp at hu; obtain ⟨z, _, rfl⟩ := hu; rfl
  case c3 => have := HL.out; unfold maxLen; omega
  case c4 => have := HL.out; omega
  case c5 => simp
  intro v' w1 hown hgrow _
  have HO := Lib.hid hown
  have HG := Lib.hid hgrow
  clear hown hgrow
  go_wp2
  go_ret
  exact ⟨v', rfl, nums_of_owns HO.out HZ.out HL.out, ((Below.refl _ _).alloc (Nat.le_refl _) _).grown HG.out (by simp) (fun k hk => by simp [Value.ownBlock] at hk; omega)⟩

theorem clone_any (v : Value) (zs : List Nat) (w : World) (hv : Nums w v zs) : Calls Try.prog 81 #[v] w (Gives w zs) := by
  obtain ⟨h1, h2, h3⟩ := hv
  rcases h3 with ⟨a, cap, rfl, rfl, _⟩ | ⟨b, off, cap, rfl, hc, hb, hcell⟩
  · cases a with
    | none => exact (clone_nil cap w).mono fun e w' ⟨he, hw⟩ => ⟨_, he, hw ▸ ⟨h1, h2, .inl ⟨none, 0, rfl, rfl, fun _ => rfl⟩⟩, hw ▸ Below.refl _ _⟩
    | some x => exact clone_some x [] cap w h2 h1 (fun j u hu => by simp at hu)
  · refine clone_some _ zs cap w h2 h1 (fun j u hu => ?_)
    rw [Addr.add_lit]
    have hj : j < zs.length := by
      apply Nat.lt_of_not_le; intro hc
      rw [List.getElem?_eq_none (by simpa using hc)] at hu; cases hu
    rw [hcell j hj]
    simp [List.getD_eq_getElem?_getD, hj] at hu ⊢
    exact hu
end Go.Proofs.Ytfkepkdfpjaniaa
namespace Go.Proofs.Ytfkepkdfpjaniaa
open Go.RowKit
set_option linter.unusedVariables false

set_option maxHeartbeats 400000 in
theorem same_cells (zs : List Nat) (b off cap b2 off2 cap2 : Nat) (w : World) (hl : zs.length ≤ 17592186043904) (hb : b < w.heap.size) (hb2 : b2 < w.heap.size)
    (h1 : ∀ i, i < zs.length → w.cell? ⟨b, off + i, none⟩ = some (.int .u64 (zs.getD i 0)))
    (h2 : ∀ i, i < zs.length → w.cell? ⟨b2, off2 + i, none⟩ = some (.int .u64 (zs.getD i 0))) :
    Calls Try.prog 21 #[.slice (some ⟨b, off, none⟩) zs.length cap, .slice (some ⟨b2, off2, none⟩) zs.length cap2] w fun e w' => e = .returned (.bool true) ∧ Below w.heap.size w w' := by
  have H1 := Lib.hid h1
  have H2 := Lib.hid h2
  clear h1 h2
  go_enter Try.func21, Try.ntmps21
  go_wp2
  go_loopw [13] (fun t wr => ∃ k : Nat, k ≤ zs.length ∧ t = .int .i64 k ∧ Below w.heap.size w wr) (fun t _ => zs.length - (intOf t).toNat)
  case atStart => exact ⟨0, by omega, rfl, Below.refl _ _⟩
  case round =>
    obtain ⟨k, hk, rfl, hbw⟩ := hrel
    by_cases hlt : k < zs.length
    · have c1 : wr.cell? ⟨b, off + k, none⟩ = some (.int .u64 (zs.getD k 0)) := (hbw.cell (p := ⟨b, off + k, none⟩) hb).trans (H1.out k hlt)
      have c2 : wr.cell? ⟨b2, off2 + k, none⟩ = some (.int .u64 (zs.getD k 0)) := (hbw.cell (p := ⟨b2, off2 + k, none⟩) hb2).trans (H2.out k hlt)
      obtain ⟨x, hx⟩ : ∃ x, x = zs.getD k 0 := ⟨_, rfl⟩
      rw [← hx] at c1 c2
      clear hx
      have hi : (k : Int) < (zs.length : Int) := by omega
      have HB := Lib.hid hbw
      clear hbw
      go_wp2
      go_quiet (fail)
      go_wp2
      go_roundw
      case rel => exact ⟨k + 1, by omega, by go_num, below_drewN HB.out _⟩
      case measure => simp [intOf]; omega
    · go_wp2
      go_ret
      exact ⟨rfl, hbw⟩

set_option maxHeartbeats 400000 in
theorem same_none (a a2 : Option Addr) (cap cap2 : Nat) (w : World) :
    Calls Try.prog 21 #[.slice a 0 cap, .slice a2 0 cap2] w fun e w' => e = .returned (.bool true) ∧ Below w.heap.size w w' := by
  go_enter Try.func21, Try.ntmps21
  go_wp2
  go_loopw [13] (fun t wr => t = .int .i64 0 ∧ Below w.heap.size w wr) (fun _ _ => 0)
  case atStart => exact ⟨rfl, Below.refl _ _⟩
  case round =>
    obtain ⟨rfl, hbw⟩ := hrel
    go_wp2
    go_ret
    exact ⟨rfl, hbw⟩

theorem same_any (va vb : Value) (zs : List Nat) (w : World) (ha : Nums w va zs) (hb : Nums w vb zs) :
    Calls Try.prog 21 #[va, vb] w fun e w' => e = .returned (.bool true) ∧ Below w.heap.size w w' := by
  obtain ⟨_, hl, ha⟩ := ha
  obtain ⟨_, _, hb⟩ := hb
  rcases ha with ⟨a, cap, rfl, rfl, _⟩ | ⟨b, off, cap, rfl, hc, hlt, hcell⟩
  · rcases hb with ⟨a2, cap2, rfl, _⟩ | ⟨b2, off2, cap2, rfl, _, _, _⟩
    · exact same_none a a2 cap cap2 w
    · exact same_none a _ cap cap2 w
  · rcases hb with ⟨a2, cap2, rfl, rfl, _⟩ | ⟨b2, off2, cap2, rfl, hc2, hlt2, hcell2⟩
    · exact same_none _ a2 cap cap2 w
    · exact same_cells zs b off cap b2 off2 cap2 w hl hlt hlt2 hcell hcell2

end Go.Proofs.Ytfkepkdfpjaniaa
namespace Go.Proofs.Ytfkepkdfpjaniaa
open Go.RowKit
set_option linter.unusedVariables false

theorem bnext {w w1 w2 : World} (h : Below w.heap.size w w1) (h2 : Below w1.heap.size w1 w2) : Below w.heap.size w w2 := h.trans (h2.mono h.size)
theorem balloc (w : World) (o : Obj) : Below w.heap.size w (w.alloc o) := (Below.refl _ _).alloc (Nat.le_refl _) _

theorem nums_open {w : World} {v : Value} {zs : List Nat} (h : Nums w v zs) : ∃ a len cap, v = .slice a len cap := by
  rcases h.2.2 with ⟨a, cap, rfl, _⟩ | ⟨b, off, cap, rfl, _⟩
  · exact ⟨_, _, _, rfl⟩
  · exact ⟨_, _, _, rfl⟩

def errOf (b : Bool) : Int := if b then 0 else 2

set_option maxHeartbeats 400000 in
theorem within_cells (p : Nat) (b off cap : Nat) (zs : List Nat) (w : World) (hl : zs.length ≤ 17592186043904)
    (hcell : ∀ i, i < zs.length → w.cell? ⟨b, off + i, none⟩ = some (.int .u64 (zs.getD i 0))) :
    Calls Try.prog 31 #[.int .u64 p, .slice (some ⟨b, off, none⟩) zs.length cap] w fun e w' => e = .returned (.int .i64 (errOf (M.within p zs))) ∧ w = w' := by
  have HV := Lib.hid hcell
  clear hcell
  go_enter Try.func31, Try.ntmps31
  go_wp2
  go_loop [9] (fun t => ∃ k : Nat, k ≤ zs.length ∧ t = .int .i64 k ∧ M.within p (zs.take k) = true) (fun t => zs.length - (intOf t).toNat)
  case atStart => exact ⟨0, by omega, rfl, by simp [M.within]⟩
  case round =>
    obtain ⟨k, hk, rfl, hw⟩ := hrel
    have HW := Lib.hid hw
    clear hw
    by_cases hlt : k < zs.length
    · have hc := HV.out k hlt
      obtain ⟨x, hx⟩ : ∃ x, x = zs.getD k 0 := ⟨_, rfl⟩
      rw [← hx] at hc
      have HX := Lib.hid hx
      clear hx
      go_wp2
      · have h : p ≤ x := by omega
        go_ret
        exact ⟨ret1 (by rw [M.within_not hlt (by rw [← HX.out]; omega)]; rfl), rfl⟩
      · have h : x < p := by omega
        go_round
        case rel => exact ⟨k + 1, by omega, by go_num, M.within_take hlt HW.out (by rw [← HX.out]; omega)⟩
        case measure => simp [intOf]; omega
    · go_wp2
      go_ret
      have hk' : k = zs.length := by omega
      have h := HW.out
      rw [hk', List.take_length] at h
      exact ⟨ret1 (by rw [h]; rfl), rfl⟩

set_option maxHeartbeats 400000 in
theorem within_nil (p : Nat) (a : Option Addr) (cap : Nat) (w : World) :
    Calls Try.prog 31 #[.int .u64 p, .slice a 0 cap] w fun e w' => e = .returned (.int .i64 0) ∧ w = w' := by
  go_enter Try.func31, Try.ntmps31
  go_wp2
  go_loop [9] (fun t => t = .int .i64 0) (fun _ => 0)
  case atStart => rfl
  case round =>
    obtain rfl := hrel
    go_wp2
    go_ret
    exact ⟨rfl, rfl⟩

theorem within_any (p : Nat) (v : Value) (zs : List Nat) (w : World) (hv : Nums w v zs) {c : Int} (hc : errOf (M.within p zs) = c) :
    Calls Try.prog 31 #[.int .u64 p, v] w fun e w' => e = .returned (.int .i64 c) ∧ w = w' := by
  subst hc
  obtain ⟨_, hl, hv⟩ := hv
  rcases hv with ⟨a, cap, rfl, rfl, _⟩ | ⟨b, off, cap, rfl, _, _, hc⟩
  · exact within_nil p a cap w
  · exact within_cells p b off cap zs w hl hc

set_option maxHeartbeats 400000 in
theorem refMul_any (p a b : Nat) (w : World) (h1 : 1 ≤ p) (hp : p ≤ 65537) (ha : a < p) (hb : b < p) :
    Calls Try.prog 42 #[.int .u64 p, .int .u64 a, .int .u64 b] w fun e w' => e = .returned (.int .u64 (a * b % p : Nat)) ∧ w = w' := by
  obtain ⟨m1, m2⟩ := mul_le hp ha hb
  go_enter Try.func42, Try.ntmps42
  go_wp2
  go_ret
  exact ⟨ret1 (by rw [Int.natCast_emod, Int.natCast_mul]), rfl⟩

set_option maxHeartbeats 400000 in
theorem refAdd_any (p a b : Nat) (w : World) (h1 : 1 ≤ p) (hp : p ≤ 65537) (ha : a < p) (hb : b < p) :
    Calls Try.prog 62 #[.int .u64 p, .int .u64 a, .int .u64 b] w fun e w' => e = .returned (.int .u64 ((a + b) % p : Nat)) ∧ w = w' := by
  go_enter Try.func62, Try.ntmps62
  go_wp2
  go_ret
  exact ⟨ret1 (by rw [Int.natCast_emod, Int.natCast_add]), rfl⟩
set_option maxHeartbeats 400000 in
theorem refSub_any (p a b : Nat) (w : World) (h1 : 1 ≤ p) (hp : p ≤ 65537) (ha : a < p) (hb : b < p) :
    Calls Try.prog 73 #[.int .u64 p, .int .u64 a, .int .u64 b] w fun e w' => e = .returned (.int .u64 ((a + p - b) % p : Nat)) ∧ w = w' := by
  go_enter Try.func73, Try.ntmps73
  go_wp2
  go_ret
  exact ⟨ret1 (by rw [Int.natCast_emod, Int.natCast_sub (by omega)]; rfl), rfl⟩

set_option maxHeartbeats 400000 in
theorem refPow_any (p a : Nat) (h2 : 2 ≤ p) (hp : p ≤ 65537) (ha : a < p) (k : Nat) : ∀ (e : Nat) (w : World), e ≤ k → e < 18446744073709551616 →
    Calls Try.prog 96 #[.int .u64 p, .int .u64 a, .int .u64 e] w fun e' w' => e' = .returned (.int .u64 (M.pw p a e)) ∧ w = w' := by
  induction k with
  | zero =>
    intro e w he h64
    obtain rfl : e = 0 := by omega
    go_enter Try.func96, Try.ntmps96
    go_wp2_with fail
    go_ret
    exact ⟨ret1 (by rw [M.pw_zero a h2]; rfl), rfl⟩
  | succ k ih =>
    intro e w he h64
    by_cases h0 : e = 0
    · subst h0
      have IH := Lib.hid ih
      clear ih
      go_enter Try.func96, Try.ntmps96
      go_wp2_with fail
      go_ret
      exact ⟨ret1 (by rw [M.pw_zero a h2]; rfl), rfl⟩
    · have hh := ih (e / 2) w (by omega) (by omega)
      rw [Int.natCast_ediv] at hh
      have hl := M.pw_lt (p := p) a (e / 2) (by omega)
      have hm := refMul_any p (M.pw p a (e / 2)) (M.pw p a (e / 2)) w (by omega) hp hl hl
      have hq := fun x hx => refMul_any p x a w (by omega) hp hx ha
      have hlt : M.pw p a (e / 2) * M.pw p a (e / 2) % p < p := Nat.mod_lt _ (by omega)
      have hq1 := hq _ hlt
      have hev := M.pw_even p a e
      have hod := M.pw_odd p a e
      have hz : ((e : Int) == 0) = false := by simp; omega
      obtain ⟨h, eh⟩ : ∃ h, h = M.pw p a (e / 2) := ⟨_, rfl⟩
      rw [← eh] at hh hm hq1 hev hod hl hlt
      obtain ⟨m, em⟩ : ∃ m, m = h * h % p := ⟨_, rfl⟩
      rw [← em] at hm hq1 hev hod hlt
      obtain ⟨r, er⟩ : ∃ r, r = m * a % p := ⟨_, rfl⟩
      rw [← er] at hq1 hod
      have HH := Lib.hid hh
      have HM := Lib.hid hm
      have HQ := Lib.hid hq1
      have HE := Lib.hid hev
      have HO := Lib.hid hod
      clear hh hm hq hq1 hev hod ih eh em er
      by_cases ho : e % 2 = 1
      · have hb : ((e : Int) % 2 == 1) = true := by simp; omega
        have H1 := Lib.hid ho
        clear ho hl hlt
        go_enter Try.func96, Try.ntmps96
        go_wp2_with fail
        refine HH.out.mono ?_
        rintro e' w' ⟨rfl, rfl⟩
        go_wp2_with fail
        refine HM.out.mono ?_
        rintro e' w' ⟨rfl, rfl⟩
        go_wp2_with fail
        refine HQ.out.mono ?_
        rintro e' w' ⟨rfl, rfl⟩
        go_wp2_with fail
        go_ret
        exact ⟨ret1 (by rw [HO.out H1.out]), rfl⟩
      · have hb : ((e : Int) % 2 == 1) = false := by simp; omega
        have H1 : Hid (e % 2 = 0) := Lib.hid (by omega)
        clear ho hl hlt
        go_enter Try.func96, Try.ntmps96
        go_wp2_with fail
        refine HH.out.mono ?_
        rintro e' w' ⟨rfl, rfl⟩
        go_wp2_with fail
        refine HM.out.mono ?_
        rintro e' w' ⟨rfl, rfl⟩
        go_wp2_with fail
        go_ret
        exact ⟨ret1 (by rw [HE.out H1.out]), rfl⟩

set_option maxHeartbeats 400000 in
theorem refInv_any (p a : Nat) (w : World) (h2 : 3 ≤ p) (hp : p ≤ 65537) (ha : a < p) :
    Calls Try.prog 74 #[.int .u64 p, .int .u64 a] w fun e' w' => e' = .returned (.int .u64 (M.pw p a (p - 2))) ∧ w = w' := by
  have h := refPow_any p a (by omega) hp ha (p - 2) (p - 2) w (Nat.le_refl _) (by omega)
  have e : (((p - 2 : Nat)) : Int) = (p : Int) - 2 := by omega
  rw [e] at h
  have HC := Lib.hid h
  clear h e
  go_enter Try.func74, Try.ntmps74
  go_wp2_with fail
  refine HC.out.mono ?_
  rintro e w' ⟨rfl, rfl⟩
  go_wp2_with fail
  go_ret
  exact ⟨rfl, rfl⟩
end Go.Proofs.Ytfkepkdfpjaniaa
