/-
  The walk of PairQuarrels: Quarrels against its definition.
-/
import Derived.Test.YtglehjcohdjhoaaAl6
import Derived.Test.YtglehjcohdjhoaaPp7q
import Derived.Test.YtglehjcohdjhoaaPr12
import Derived.ChangeKeysEq
import Derived.Laws.StructEq
namespace Go.Proofs.Ytglehjcohdjhoaa
open Go.RowKit
set_option linter.unusedVariables false
set_option maxRecDepth 100000

theorem prV_get : ∀ (l : List (Nat × Nat)) (i : Nat), i < l.length → (prV l)[i * 2]? = some (.int .i64 ((l.getD i (0, 0)).1 : Nat)) ∧ (prV l)[i * 2 + 1]? = some (.int .i64 ((l.getD i (0, 0)).2 : Nat))
  | [], i, h => absurd h (by simp)
  | a :: l, 0, _ => ⟨rfl, rfl⟩
  | a :: l, i + 1, h => by
    have e : prV (a :: l) = .int .i64 (a.1 : Nat) :: .int .i64 (a.2 : Nat) :: prV l := rfl
    have ih := prV_get l i (by simpa using h)
    rw [e, show (i + 1) * 2 = i * 2 + 1 + 1 by omega, show (i * 2 + 1 + 1 + 1) = (i * 2 + 1) + 1 + 1 by omega]
    simp only [List.getElem?_cons_succ, List.getD_cons_succ]
    exact ih
/-- a pair of numbers is equal to itself -/
theorem pair_eq6 (a b : Int) (w : World) : (Op.equalIn 10000 73 (.agg #[.int .i64 a, .int .i64 b]) (.agg #[.int .i64 a, .int .i64 b])).run Try.prog w = .ok true w := by
  obtain ⟨i0, hi0, hz0, hz1, hz2⟩ := info_parts infoI64
  rw [show (10000 : Nat) = 9999 + 1 from rfl, run_equalIn_array w 9999 _ _ Try.underlying73 hi0, show Try.prog.cellsOf 3 = 1 by kernel_rfl]
  have p0 : (Go.part 3 #[.int .i64 a, .int .i64 b] (0 * 1)).run Try.prog w = .ok (.int .i64 a) w := run_part_plain w (by kernel_rfl) rfl
  have p1 : (Go.part 3 #[.int .i64 a, .int .i64 b] (1 * 1)).run Try.prog w = .ok (.int .i64 b) w := run_part_plain w (by kernel_rfl) rfl
  have q : ∀ x : Int, (Op.equalIn 9999 3 (.int .i64 x) (.int .i64 x)).run Try.prog w = .ok true w := fun x => by
    rw [show (9999 : Nat) = 9998 + 1 from rfl, run_equalIn_int w 9998 _ .i64 .i64 x x Try.underlying3]; simp
  show (Op.eqItems 9999 3 1 _ _ [0, 1]).run _ w = _
  simp only [Op.eqItems, Sem.run_bind, p0, q, Result.andThen_ok]
  rw [Nat.one_mul] at p1
  simp [p1, q]
theorem own_slice6 {w : World} {base : Nat} {e : TypeId} {size : Nat} {v : Value} {n : Nat} {xs : List Value} (h : w.ownsRow base e size v n xs) : ∃ A c, v = .slice A n c := by
  rcases h.2 with ⟨hv, h0⟩ | ⟨g, cap, cur, hv, _⟩
  · exact ⟨none, 0, by rw [hv, h0]⟩
  · exact ⟨_, _, hv⟩
theorem M.polyE_bnd {p : Nat} (xs : List Nat) (rows : List (List Nat)) : (M.bnd p 0 ≠ 0 ∧ M.polyE p xs rows = M.bnd p 0) ∨ (M.bnd p 0 = 0 ∧ M.polyE p xs rows = M.rowsE p xs rows) := by
  cases hi : M.isP p with
  | false =>
    have hb : M.bnd p 0 = 2 := by unfold M.bnd; rw [if_neg (by simp [hi])]
    exact .inl ⟨by rw [hb]; decide, by rw [hb]; unfold M.polyE; rw [if_neg (by simp [hi])]⟩
  | true => exact .inr ⟨M.bnd_ok hi (Nat.zero_le 3), by unfold M.polyE; rw [if_pos hi]⟩

namespace pairQuarrelsW
set_option maxHeartbeats 2000000 in
theorem bad (W : World) (p : Nat) (hp : p < 18446744073709551616) (v : Value) (xs : List Nat) (hv : Nums W v xs) (v2 : Value) (rows : List (List Nat)) (hv2 : Mat W v2 rows) (hc : M.polyE p xs rows ≠ 0) :
    Calls Try.prog 9 #[.int .u64 p, v, v2] W fun e W' => e = .returned (.bool true) ∧ Below W.heap.size W W' := by
  have hud : ∀ b : Bool, undef ≠ Value.bool b := fun b h => by cases h
  have QU := Lib.hid (pquarrels_any p v v2 xs rows W hp hv hv2)
  have BN := Lib.hid fun (w : World) => rbounds_any p 0 w hp (by omega) (by omega)
  have RW := Lib.hid fun (w : World) (b : Below W.heap.size W w) => rrows6_any p v v2 xs rows w (hv.below b) (hv2.below b)
  have HPB := Lib.hid (M.polyE_bnd (p := p) xs rows)
  obtain ⟨A, cap, rfl⟩ := nums_slice' hv
  obtain ⟨A2, cap2, rfl, _⟩ := mat_view6 hv2
  have hcb : (M.polyE p xs rows != 0) = true := by rw [bne_iff_ne]; exact hc
  have hee : (M.polyE p xs rows == M.polyE p xs rows) = true := by simp
  unfold PQ at QU
  obtain ⟨c, ec⟩ : ∃ c, c = M.polyE p xs rows := ⟨_, rfl⟩
  rw [← ec] at QU hc hcb hee HPB
  have HC := Lib.hid hc
  clear hv hv2 ec hc
  rcases HPB.out with ⟨hb0, hb⟩ | ⟨hb0, hb⟩
  · rw [← hb] at BN hb0
    have hbb : (c == 0) = false := by simpa using hb0
    clear hb hb0 HPB
    go_enter Try.func9, Try.ntmps9
    go_wp2_with fail
    refine QU.out.mono ?_
    rintro e w1 ⟨hb, ⟨_, rfl⟩ | ⟨h, _⟩⟩
    case inr => exact absurd h HC.out
    have B1 := Lib.hid hb
    clear hb
    go_wp2_with fail
    refine (BN.out _).mono ?_
    rintro e w2 ⟨rfl, rfl⟩
    go_wp2_with fail
    refine (alive6_any _).mono ?_
    rintro e w9 ⟨rfl, hb⟩
    have B9 := Lib.hid (bnext B1.out hb)
    clear hb
    go_wp2_with fail
    go_ret
    exact ⟨rfl, B9.out⟩
  · rw [hb0] at BN
    rw [← hb] at RW
    have hbb : ((0 : Int) == 0) = true := rfl
    clear hb hb0 HPB
    go_enter Try.func9, Try.ntmps9
    go_wp2_with fail
    refine QU.out.mono ?_
    rintro e w1 ⟨hb, ⟨_, rfl⟩ | ⟨h, _⟩⟩
    case inr => exact absurd h HC.out
    have B1 := Lib.hid hb
    clear hb
    go_wp2_with fail
    refine (BN.out _).mono ?_
    rintro e w2 ⟨rfl, rfl⟩
    go_wp2_with fail
    refine (RW.out _ B1.out).mono ?_
    rintro e w2 ⟨rfl, hb⟩
    have B2 := Lib.hid (bnext B1.out hb)
    clear hb
    go_wp2_with fail
    refine (alive6_any _).mono ?_
    rintro e w9 ⟨rfl, hb⟩
    have B9 := Lib.hid (bnext B2.out hb)
    clear hb
    go_wp2_with fail
    go_ret
    exact ⟨rfl, B9.out⟩
set_option maxHeartbeats 2000000 in
theorem good (W : World) (p : Nat) (hp : p < 18446744073709551616) (v : Value) (xs : List Nat) (hv : Nums W v xs) (v2 : Value) (rows : List (List Nat)) (hv2 : Mat W v2 rows) (hc : M.polyE p xs rows = 0) :
    Calls Try.prog 9 #[.int .u64 p, v, v2] W fun e W' => e = .returned (.bool true) ∧ Below W.heap.size W W' := by
  have hud : ∀ b : Bool, undef ≠ Value.bool b := fun b h => by cases h
  obtain ⟨hip, hok⟩ := M.polyE_ok hc
  obtain ⟨h3, hp5⟩ := M.pos_of hip
  have QU := Lib.hid (pquarrels_any p v v2 xs rows W hp hv hv2)
  unfold PQ at QU
  rw [hc] at QU
  have BN := Lib.hid fun (w : World) => rbounds_any p 0 w hp (by omega) (by omega)
  rw [show M.bnd p 0 = 0 from M.bnd_ok hip (Nat.zero_le 3)] at BN
  have RW := Lib.hid fun (w : World) (b : Below W.heap.size W w) => rrows6_any p v v2 xs rows w (hv.below b) (hv2.below b)
  rw [M.rowsE_ok hok] at RW
  have RQ := Lib.hid fun (w : World) (b : Below W.heap.size W w) => rquarrels6_any p v v2 xs rows w h3 hp5 hok (hv.below b) (hv2.below b)
  have hq := M.qAll_len p xs rows xs.length
  have hq2 : xs.length * xs.length ≤ 13 * 13 := Nat.mul_le_mul hok.len hok.len
  obtain ⟨l, el⟩ : ∃ l, l = M.qAll p xs rows xs.length := ⟨_, rfl⟩
  rw [← el] at QU RQ hq
  obtain ⟨A, cap, rfl⟩ := nums_slice' hv
  obtain ⟨A2, cap2, rfl, _⟩ := mat_view6 hv2
  have hcb0 : ((0 : Int) != 0) = false := rfl
  have hcb1 : ((0 : Int) == 0) = true := rfl
  have hll : ((l.length : Int) != (l.length : Int)) = false := by simp
  obtain ⟨n, en⟩ : ∃ n, n = l.length := ⟨_, rfl⟩
  have EN := Lib.hid en
  rw [← en] at QU RQ hll hq
  have hn1 : n ≤ 169 := by omega
  clear hv hv2 hc hip hok el en hq hq2
  go_enter Try.func9, Try.ntmps9
  go_wp2_with fail
  refine QU.out.mono ?_
  rintro e w1 ⟨hb, ⟨h, _⟩ | ⟨_, u1, rfl, ho1⟩⟩
  case inl => exact absurd rfl h
  have B1 := Lib.hid hb
  have HO1 := Lib.hid ho1
  obtain ⟨Au, cu, rfl, hcu⟩ : ∃ Au cu, u1 = .slice Au n cu ∧ (0 < n → ∃ g, Au = some ⟨g, 0, none⟩ ∧ g < w1.heap.size) := by
    by_cases h0 : 0 < n
    · obtain ⟨g, c, e, _, hg⟩ := ho1.form h0
      exact ⟨_, _, e, fun _ => ⟨g, rfl, hg⟩⟩
    · obtain ⟨a, c, e⟩ := own_slice6 ho1
      exact ⟨a, c, e, fun h => absurd h h0⟩
  have HCU := Lib.hid hcu
  clear hb ho1 hcu
  go_wp2_with fail
  refine (BN.out _).mono ?_
  rintro e w2 ⟨rfl, rfl⟩
  go_wp2_with fail
  refine (RW.out _ B1.out).mono ?_
  rintro e w2 ⟨rfl, hb⟩
  have B2 := Lib.hid (bnext B1.out hb)
  have HO2 := Lib.hid (own_below HO1.out hb)
  have hs12 := hb.size
  clear hb HO1
  go_wp2_with fail
  refine (RQ.out _ B2.out).mono ?_
  rintro e w3 ⟨u2, rfl, ho3, hb⟩
  have B3 := Lib.hid (bnext B2.out hb)
  have HO3 := Lib.hid (own_below HO2.out hb)
  have hs23 := hb.size
  have HR3 := Lib.hid ho3
  obtain ⟨Ar, cr, rfl, hcr⟩ : ∃ Ar cr, u2 = .slice Ar n cr ∧ (0 < n → ∃ g, Ar = some ⟨g, 0, none⟩ ∧ g < w3.heap.size) := by
    by_cases h0 : 0 < n
    · obtain ⟨g, c, e, _, hg⟩ := ho3.form h0
      exact ⟨_, _, e, fun _ => ⟨g, rfl, hg⟩⟩
    · obtain ⟨a, c, e⟩ := own_slice6 ho3
      exact ⟨a, c, e, fun h => absurd h h0⟩
  have HCR := Lib.hid hcr
  clear hb ho3 hcr HO2
  go_wp2_with fail
  go_loopw [55] (fun t wr => ∃ k : Nat, k ≤ n ∧ t = .int .i64 k ∧ Below w3.heap.size w3 wr) (fun t _ => n - (intOf t).toNat)
  case atStart => exact ⟨0, by omega, rfl, Below.refl _ _⟩
  case round =>
    obtain ⟨k, hk, rfl, hB⟩ := hrel
    have HB := Lib.hid hB
    clear hB
    by_cases hlt : k < n
    · obtain ⟨g1, rfl, hg1⟩ := HCU.out (by omega)
      obtain ⟨g2, rfl, hg2⟩ := HCR.out (by omega)
      have hk2 : k * 2 + 1 < n * 2 := by omega
      obtain ⟨e1, e2⟩ := prV_get l k (by rw [← EN.out]; exact hlt)
      have c1 := (HB.out.cell (p := ⟨g1, k * 2, none⟩) (by show g1 < w3.heap.size; omega)).trans ((HO3.out.cellAt (k * 2) (by omega)).trans e1)
      have c2 := (HB.out.cell (p := ⟨g1, k * 2 + 1, none⟩) (by show g1 < w3.heap.size; omega)).trans ((HO3.out.cellAt (k * 2 + 1) (by omega)).trans e2)
      have c3 := (HB.out.cell (p := ⟨g2, k * 2, none⟩) hg2).trans ((HR3.out.cellAt (k * 2) (by omega)).trans e1)
      have c4 := (HB.out.cell (p := ⟨g2, k * 2 + 1, none⟩) hg2).trans ((HR3.out.cellAt (k * 2 + 1) (by omega)).trans e2)
      obtain ⟨a, ea⟩ : ∃ a, a = (l.getD k (0, 0)).1 := ⟨_, rfl⟩
      obtain ⟨b, eb⟩ : ∃ b, b = (l.getD k (0, 0)).2 := ⟨_, rfl⟩
      rw [← ea] at c1 c3
      rw [← eb] at c2 c4
      have hkn : (k : Int) < (n : Nat) := by omega
      have hEQ : ∀ W : World, (Op.equalIn 10000 73 (.agg #[.int .i64 (a : Nat), .int .i64 (b : Nat)]) (.agg #[.int .i64 (a : Nat), .int .i64 (b : Nat)])).run Try.prog W = .ok true W := fun W => pair_eq6 _ _ W
      clear e1 e2 ea eb
      go_wp2_with fail
      go_region
      go_wp2_with fail
      go_roundw
      case rel => exact ⟨k + 1, by omega, by go_num, HB.out.drew⟩
      case measure => simp [intOf]; omega
    · obtain rfl : k = n := by omega
      go_wp2_with fail
      refine (alive6_any _).mono ?_
      rintro e w9 ⟨rfl, hb⟩
      have B9 := Lib.hid (bnext (bnext B3.out HB.out) hb)
      clear hb
      go_wp2_with fail
      go_ret
      exact ⟨rfl, B9.out⟩
theorem walk (W : World) (p : Nat) (hp : p < 18446744073709551616) (v : Value) (xs : List Nat) (hv : Nums W v xs) (v2 : Value) (rows : List (List Nat)) (hv2 : Mat W v2 rows) :
    Calls Try.prog 9 #[.int .u64 p, v, v2] W fun e W' => e = .returned (.bool true) ∧ Below W.heap.size W W' := by
  by_cases hc : M.polyE p xs rows = 0
  · exact good W p hp v xs hv v2 rows hv2 hc
  · exact bad W p hp v xs hv v2 rows hv2 hc
end pairQuarrelsW
end Go.Proofs.Ytglehjcohdjhoaa
