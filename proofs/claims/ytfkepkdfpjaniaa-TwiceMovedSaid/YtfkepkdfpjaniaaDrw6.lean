/-
  field.Draw and the reference's Draw.
-/
import Derived.Test.YtfkepkdfpjaniaaXA
import Derived.Laws.AppendOwnNone
namespace Go.Proofs.Ytfkepkdfpjaniaa
open Go.RowKit
set_option linter.unusedVariables false
set_option maxRecDepth 100000

set_option maxHeartbeats 400000 in
theorem draw_bad (p : Nat) (v : Value) (n : Int) (w : World) (hp : p < 18446744073709551616) (h : M.isP p = false ∨ n < 0 ∨ 65536 < n) (a : Option Addr) (len cap : Nat) (hv : v = .slice a len cap) :
    Calls Try.prog 51 #[.int .u64 p, v, .int .i64 n] w fun e w' => e = .returned (.tuple #[.slice none 0 0, .slice none 0 0, .int .i64 2]) ∧ w = w' := by
  subst hv
  have HC := Lib.hid (valid0 p w hp rfl)
  have H := Lib.hid h
  clear hp h
  cases hi : M.isP p with
  | false =>
    rw [hi] at HC
    clear hi
    go_enter Try.func51, Try.ntmps51
    go_wp2_with (go_at_call 80; refine HC.out.mono ?_; rintro e w' ⟨rfl, rfl⟩)
    go_ret3
    exact ⟨rfl, rfl⟩
  | true =>
    rw [hi] at HC
    have hn : n < 0 ∨ 65536 < n := by rcases H.out with h | h; (· rw [hi] at h; cases h); exact h
    clear hi
    rcases hn with hn | hn
    · go_enter Try.func51, Try.ntmps51
      go_wp2_with (go_at_call 80; refine HC.out.mono ?_; rintro e w' ⟨rfl, rfl⟩)
      go_ret3
      exact ⟨rfl, rfl⟩
    · have hn0 : ¬ n < 0 := by omega
      go_enter Try.func51, Try.ntmps51
      go_wp2_with (go_at_call 80; refine HC.out.mono ?_; rintro e w' ⟨rfl, rfl⟩)
      go_ret3
      exact ⟨rfl, rfl⟩

/-- what Draw hands back -/
def Drew (w : World) (p : Nat) (zs : List Nat) (n : Nat) (e : Ending) (w' : World) : Prop :=
  ∃ v1 v2, e = .returned (.tuple #[v1, v2, .int .i64 0]) ∧ Nums w' v1 ((List.range n).map fun i => zs.getD i 0 % p) ∧ Nums w' v2 (zs.drop n) ∧ Below w.heap.size w w'

/-- what is in the made row after k rounds -/
def part (p : Nat) (zs : List Nat) (n k : Nat) : List Nat := (List.range n).map fun i => if i < k then zs.getD i 0 % p else 0
theorem part_zero (p : Nat) (zs : List Nat) (n : Nat) : vals (part p zs n 0) = List.replicate n (.int .u64 0) := by
  apply List.ext_getElem?
  intro i
  by_cases h : i < n
  · simp [vals, part, h]
  · simp [vals, part, h]
theorem part_len (p : Nat) (zs : List Nat) (n k : Nat) : (part p zs n k).length = n := by simp [part]
theorem part_get (p : Nat) (zs : List Nat) (n k i : Nat) (h : i < n) : (vals (part p zs n k))[i]? = some (.int .u64 ((if i < k then zs.getD i 0 % p else 0 : Nat) : Int)) := by
  simp [vals, part, h]
theorem part_set (p : Nat) (zs : List Nat) (n k : Nat) (h : k < n) : (vals (part p zs n k)).set k (.int .u64 ((zs.getD k 0 % p : Nat) : Int)) = vals (part p zs n (k + 1)) := by
  apply List.ext_getElem?
  intro i
  rw [List.getElem?_set]
  by_cases hi : i < n
  · rw [part_get _ _ _ _ _ hi, part_get _ _ _ _ _ hi]
    by_cases hk : k = i
    · subst hk
      have : k < (vals (part p zs n k)).length := by simp [vals, part_len]; exact h
      rw [if_pos rfl, if_pos this, if_pos (by omega)]
    · rw [if_neg hk]
      by_cases h2 : i < k
      · rw [if_pos h2, if_pos (by omega)]
      · rw [if_neg h2, if_neg (by omega)]
  · have e1 : (vals (part p zs n k)).length = n := by simp [vals, part_len]
    have e2 : (vals (part p zs n (k + 1))).length = n := by simp [vals, part_len]
    rw [if_neg (by omega), List.getElem?_eq_none (by omega), List.getElem?_eq_none (by omega)]
def drawn (p : Nat) (zs : List Nat) (n : Nat) : List Nat := (List.range n).map fun i => zs.getD i 0 % p
theorem part_full (p : Nat) (zs : List Nat) (n k : Nat) (hk : n ≤ k ∨ zs.length ≤ k) : part p zs n k = drawn p zs n := by
  unfold part drawn
  apply List.map_congr_left
  intro i hi
  have hi' := List.mem_range.1 hi
  by_cases h : i < k
  · rw [if_pos h]
  · rw [if_neg h, List.getD_eq_getElem?_getD, List.getElem?_eq_none (by omega)]; simp
theorem drawn_lt (p : Nat) (zs : List Nat) (n : Nat) (hp : 0 < p) (hp2 : p < 18446744073709551616) : ∀ x ∈ drawn p zs n, x < 18446744073709551616 := by
  intro x hx
  obtain ⟨i, _, rfl⟩ := List.mem_map.1 hx
  have := Nat.mod_lt (zs.getD i 0) hp
  omega


set_option maxHeartbeats 1000000 in
theorem draw_a (p n cap : Nat) (zs : List Nat) (b off : Nat) (w : World) (hi : M.isP p = true) (hn : n ≤ 65536) (hl : zs.length ≤ 17592186043904) (hb : b < w.heap.size) (hnl : n ≤ zs.length) (hcl : zs.length ≤ cap) (hcn : n < cap)
    (h1 : ∀ i, i < zs.length → w.cell? ⟨b, off + i, none⟩ = some (.int .u64 (zs.getD i 0))) (hz : ∀ n ∈ zs, n < 18446744073709551616) :
    Calls Try.prog 51 #[.int .u64 p, .slice (some ⟨b, off, none⟩) zs.length cap, .int .i64 n] w (Drew w p zs n) := by
  obtain ⟨h3, hp⟩ := M.pos_of hi
  have HC := Lib.hid (valid0 p w (by omega) hi)
  have H1 := Lib.hid h1
  have HZ := Lib.hid hz
  obtain ⟨i0, hi0, hz0, hz1, hz2⟩ := info_parts infoU64
  clear h1 hi hz
  go_enter Try.func51, Try.ntmps51
  go_wp2_with (first | (go_at_call 80; refine HC.out.mono ?_; rintro e w' ⟨rfl, rfl⟩) | (refine wpList_make_full _ rfl _ _ 31 rfl w.heap.size 22 i0 (.int .u64 0) 1 Try.underlying31 hi0 hz0 hz1 .i64 .i64 _ _ n rfl rfl rfl rfl ?c1 ?c2 ?c3 ?_))
  case c1 => rw [hz2]; omega
  case c2 => unfold maxLen; omega
  case c3 => exact Nat.le_refl _
  intro w1 hown hgrow
  rw [toList_madeCells_one, ← part_zero p zs n] at hown
  have HB := Lib.hid ((Below.refl w.heap.size w).grown hgrow (Nat.le_refl _) (by simp))
  have HO := Lib.hid hown
  clear hown hgrow
  go_wp2
  go_loopw [34] (fun t wr => ∃ k : Nat, k ≤ n ∧ t = .int .i64 k ∧ wr.ownsRow w.heap.size 22 1 (.slice (some ⟨w.heap.size, 0, none⟩) n n) n (vals (part p zs n k)) ∧ Below w.heap.size w wr) (fun t _ => n - (intOf t).toNat)
  case atStart => exact ⟨0, by omega, rfl, HO.out, HB.out⟩
  case round =>
    obtain ⟨k, hk, rfl, hown, hbw⟩ := hrel
    have HB2 := Lib.hid hbw
    have HO2 := Lib.hid hown
    clear hown hbw
    by_cases hlt : k < n
    · have c1 : wr.cell? ⟨b, off + k, none⟩ = some (.int .u64 (zs.getD k 0)) := (HB2.out.cell (p := ⟨b, off + k, none⟩) hb).trans (H1.out k (by omega))
      have hx64 : zs.getD k 0 < 18446744073709551616 := by
        rw [List.getD_eq_getElem?_getD, List.getElem?_eq_getElem (by omega)]
        exact HZ.out _ (List.getElem_mem (by omega))
      have hst := HO2.out.stored k (.int .u64 ((zs.getD k 0 % p : Nat) : Int))
      rw [part_set p zs n k (by omega)] at hst
      obtain ⟨x, hx⟩ : ∃ x, x = zs.getD k 0 := ⟨_, rfl⟩
      rw [← hx] at c1 hx64 hst
      clear hx
      rw [Int.natCast_emod] at hst
      have HS := Lib.hid hst
      have c2 : wr.cell? ⟨w.heap.size, k, none⟩ = some (.int .u64 ((if k < k then zs.getD k 0 % p else 0 : Nat) : Int)) := (HO2.out.cellAt k (by omega)).trans (part_get p zs n k k (by omega))
      rw [if_neg (by omega)] at c2
      have c3 : wr.frozen? ⟨w.heap.size, k, none⟩ = false := HO2.out.frozenAt k
      have hkn : (k : Int) < (n : Nat) := by omega
      clear hst
      go_wp2
      go_roundw
      case rel => exact ⟨k + 1, by omega, by go_num, HS.out.1, HB2.out.setCell (by simp) _⟩
      case measure => simp [intOf]; omega
    · have hkU : k = n := by omega
      subst hkU
      have hd : Nums wr (.slice (some ⟨b, off + k, none⟩) (zs.length - k) (cap - k)) (zs.drop k) := by
        refine ⟨fun x hx => HZ.out x (List.mem_of_mem_drop hx), by simp; omega, ?_⟩
        by_cases he : zs.length = k
        · left; exact ⟨_, _, by rw [he, Nat.sub_self], List.drop_eq_nil_of_le (by omega), by simp⟩
        · right
          refine ⟨b, off + k, cap - k, by simp, by simp; omega, Nat.lt_of_lt_of_le hb HB2.out.size, fun i hi => ?_⟩
          have hi' : k + i < zs.length := by simp at hi; omega
          have := (HB2.out.cell (p := ⟨b, off + (k + i), none⟩) hb).trans (H1.out (k + i) hi')
          rw [Nat.add_assoc, this]
          simp [List.getD_eq_getElem?_getD]
      have HD := Lib.hid hd
      have hN : Nums wr (.slice (some ⟨w.heap.size, 0, none⟩) k k) (drawn p zs k) := by
        have h := HO2.out
        rw [part_full p zs k _ (.inl (by omega))] at h
        exact nums_of_owns h (drawn_lt p zs k (by omega) (by omega)) (by simp [drawn]; omega)
      have HN := Lib.hid hN
      clear hd hN
      go_wp2_with (go_at_call 81; refine (clone_any _ _ _ HD.out).mono ?_; rintro e w' ⟨v2, rfl, hv2, hb2⟩)
      go_ret3
      exact ⟨_, v2, rfl, HN.out.below (by assumption), by assumption, HB2.out.trans (Below.mono (by assumption) HB2.out.size)⟩

set_option maxHeartbeats 1000000 in
theorem draw_b (p : Nat) (zs : List Nat) (b off : Nat) (w : World) (hi : M.isP p = true) (hn : zs.length ≤ 65536) (hl : zs.length ≤ 17592186043904) (hb : b < w.heap.size) 
    (h1 : ∀ i, i < zs.length → w.cell? ⟨b, off + i, none⟩ = some (.int .u64 (zs.getD i 0))) (hz : ∀ n ∈ zs, n < 18446744073709551616) :
    Calls Try.prog 51 #[.int .u64 p, .slice (some ⟨b, off, none⟩) zs.length zs.length, .int .i64 zs.length] w (Drew w p zs zs.length) := by
  obtain ⟨h3, hp⟩ := M.pos_of hi
  have HC := Lib.hid (valid0 p w (by omega) hi)
  have H1 := Lib.hid h1
  have HZ := Lib.hid hz
  obtain ⟨i0, hi0, hz0, hz1, hz2⟩ := info_parts infoU64
  clear h1 hi hz
  go_enter Try.func51, Try.ntmps51
  go_wp2_with (first | (go_at_call 80; refine HC.out.mono ?_; rintro e w' ⟨rfl, rfl⟩) | (refine wpList_make_full _ rfl _ _ 31 rfl w.heap.size 22 i0 (.int .u64 0) 1 Try.underlying31 hi0 hz0 hz1 .i64 .i64 _ _ zs.length rfl rfl rfl rfl ?c1 ?c2 ?c3 ?_))
  case c1 => rw [hz2]; omega
  case c2 => unfold maxLen; omega
  case c3 => exact Nat.le_refl _
  intro w1 hown hgrow
  rw [toList_madeCells_one, ← part_zero p zs zs.length] at hown
  have HB := Lib.hid ((Below.refl w.heap.size w).grown hgrow (Nat.le_refl _) (by simp))
  have HO := Lib.hid hown
  clear hown hgrow
  go_wp2
  go_loopw [34] (fun t wr => ∃ k : Nat, k ≤ zs.length ∧ t = .int .i64 k ∧ wr.ownsRow w.heap.size 22 1 (.slice (some ⟨w.heap.size, 0, none⟩) zs.length zs.length) zs.length (vals (part p zs zs.length k)) ∧ Below w.heap.size w wr) (fun t _ => zs.length - (intOf t).toNat)
  case atStart => exact ⟨0, by omega, rfl, HO.out, HB.out⟩
  case round =>
    obtain ⟨k, hk, rfl, hown, hbw⟩ := hrel
    have HB2 := Lib.hid hbw
    have HO2 := Lib.hid hown
    clear hown hbw
    by_cases hlt : k < zs.length
    · have c1 : wr.cell? ⟨b, off + k, none⟩ = some (.int .u64 (zs.getD k 0)) := (HB2.out.cell (p := ⟨b, off + k, none⟩) hb).trans (H1.out k (by omega))
      have hx64 : zs.getD k 0 < 18446744073709551616 := by
        rw [List.getD_eq_getElem?_getD, List.getElem?_eq_getElem (by omega)]
        exact HZ.out _ (List.getElem_mem (by omega))
      have hst := HO2.out.stored k (.int .u64 ((zs.getD k 0 % p : Nat) : Int))
      rw [part_set p zs zs.length k (by omega)] at hst
      obtain ⟨x, hx⟩ : ∃ x, x = zs.getD k 0 := ⟨_, rfl⟩
      rw [← hx] at c1 hx64 hst
      clear hx
      rw [Int.natCast_emod] at hst
      have HS := Lib.hid hst
      have c2 : wr.cell? ⟨w.heap.size, k, none⟩ = some (.int .u64 ((if k < k then zs.getD k 0 % p else 0 : Nat) : Int)) := (HO2.out.cellAt k (by omega)).trans (part_get p zs zs.length k k (by omega))
      rw [if_neg (by omega)] at c2
      have c3 : wr.frozen? ⟨w.heap.size, k, none⟩ = false := HO2.out.frozenAt k
      have hkn : (k : Int) < (zs.length : Nat) := by omega
      clear hst
      go_wp2
      go_roundw
      case rel => exact ⟨k + 1, by omega, by go_num, HS.out.1, HB2.out.setCell (by simp) _⟩
      case measure => simp [intOf]; omega
    · have hkU : k = zs.length := by omega
      subst hkU
      have hd : Nums wr (.slice (some ⟨b, off, none⟩) 0 0) (zs.drop zs.length) := by
        refine ⟨fun x hx => HZ.out x (List.mem_of_mem_drop hx), by simp, ?_⟩
        left
        exact ⟨_, _, rfl, List.drop_eq_nil_of_le (by omega), by simp⟩
      have HD := Lib.hid hd
      have hN : Nums wr (.slice (some ⟨w.heap.size, 0, none⟩) zs.length zs.length) (drawn p zs zs.length) := by
        have h := HO2.out
        rw [part_full p zs zs.length _ (.inl (by omega))] at h
        exact nums_of_owns h (drawn_lt p zs zs.length (by omega) (by omega)) (by simp [drawn]; omega)
      have HN := Lib.hid hN
      clear hd hN
      go_wp2_with (go_at_call 81; refine (clone_any _ _ _ HD.out).mono ?_; rintro e w' ⟨v2, rfl, hv2, hb2⟩)
      go_ret3
      exact ⟨_, v2, rfl, HN.out.below (by assumption), by assumption, HB2.out.trans (Below.mono (by assumption) HB2.out.size)⟩

set_option maxHeartbeats 1000000 in
theorem draw_c (p n cap : Nat) (zs : List Nat) (b off : Nat) (w : World) (hi : M.isP p = true) (hn : n ≤ 65536) (hl : zs.length ≤ 17592186043904) (hb : b < w.heap.size) (hnl : zs.length < n) (hcl : zs.length < cap)
    (h1 : ∀ i, i < zs.length → w.cell? ⟨b, off + i, none⟩ = some (.int .u64 (zs.getD i 0))) (hz : ∀ n ∈ zs, n < 18446744073709551616) :
    Calls Try.prog 51 #[.int .u64 p, .slice (some ⟨b, off, none⟩) zs.length cap, .int .i64 n] w (Drew w p zs n) := by
  obtain ⟨h3, hp⟩ := M.pos_of hi
  have HC := Lib.hid (valid0 p w (by omega) hi)
  have H1 := Lib.hid h1
  have HZ := Lib.hid hz
  obtain ⟨i0, hi0, hz0, hz1, hz2⟩ := info_parts infoU64
  clear h1 hi hz
  go_enter Try.func51, Try.ntmps51
  go_wp2_with (first | (go_at_call 80; refine HC.out.mono ?_; rintro e w' ⟨rfl, rfl⟩) | (refine wpList_make_full _ rfl _ _ 31 rfl w.heap.size 22 i0 (.int .u64 0) 1 Try.underlying31 hi0 hz0 hz1 .i64 .i64 _ _ n rfl rfl rfl rfl ?c1 ?c2 ?c3 ?_))
  case c1 => rw [hz2]; omega
  case c2 => unfold maxLen; omega
  case c3 => exact Nat.le_refl _
  intro w1 hown hgrow
  rw [toList_madeCells_one, ← part_zero p zs n] at hown
  have HB := Lib.hid ((Below.refl w.heap.size w).grown hgrow (Nat.le_refl _) (by simp))
  have HO := Lib.hid hown
  clear hown hgrow
  go_wp2
  go_loopw [34] (fun t wr => ∃ k : Nat, k ≤ zs.length ∧ t = .int .i64 k ∧ wr.ownsRow w.heap.size 22 1 (.slice (some ⟨w.heap.size, 0, none⟩) n n) n (vals (part p zs n k)) ∧ Below w.heap.size w wr) (fun t _ => zs.length - (intOf t).toNat)
  case atStart => exact ⟨0, by omega, rfl, HO.out, HB.out⟩
  case round =>
    obtain ⟨k, hk, rfl, hown, hbw⟩ := hrel
    have HB2 := Lib.hid hbw
    have HO2 := Lib.hid hown
    clear hown hbw
    by_cases hlt : k < zs.length
    · have c1 : wr.cell? ⟨b, off + k, none⟩ = some (.int .u64 (zs.getD k 0)) := (HB2.out.cell (p := ⟨b, off + k, none⟩) hb).trans (H1.out k (by omega))
      have hx64 : zs.getD k 0 < 18446744073709551616 := by
        rw [List.getD_eq_getElem?_getD, List.getElem?_eq_getElem (by omega)]
        exact HZ.out _ (List.getElem_mem (by omega))
      have hst := HO2.out.stored k (.int .u64 ((zs.getD k 0 % p : Nat) : Int))
      rw [part_set p zs n k (by omega)] at hst
      obtain ⟨x, hx⟩ : ∃ x, x = zs.getD k 0 := ⟨_, rfl⟩
      rw [← hx] at c1 hx64 hst
      clear hx
      rw [Int.natCast_emod] at hst
      have HS := Lib.hid hst
      have c2 : wr.cell? ⟨w.heap.size, k, none⟩ = some (.int .u64 ((if k < k then zs.getD k 0 % p else 0 : Nat) : Int)) := (HO2.out.cellAt k (by omega)).trans (part_get p zs n k k (by omega))
      rw [if_neg (by omega)] at c2
      have c3 : wr.frozen? ⟨w.heap.size, k, none⟩ = false := HO2.out.frozenAt k
      have hkn : (k : Int) < (n : Nat) := by omega
      clear hst
      go_wp2
      go_roundw
      case rel => exact ⟨k + 1, by omega, by go_num, HS.out.1, HB2.out.setCell (by simp) _⟩
      case measure => simp [intOf]; omega
    · have hkU : k = zs.length := by omega
      subst hkU
      have hd : Nums wr (.slice (some ⟨b, off + zs.length, none⟩) 0 (cap - zs.length)) (zs.drop n) := by
        refine ⟨fun x hx => HZ.out x (List.mem_of_mem_drop hx), by simp; omega, ?_⟩
        left
        exact ⟨_, _, rfl, List.drop_eq_nil_of_le (by omega), by simp⟩
      have HD := Lib.hid hd
      have hN : Nums wr (.slice (some ⟨w.heap.size, 0, none⟩) n n) (drawn p zs n) := by
        have h := HO2.out
        rw [part_full p zs n _ (.inr (by omega))] at h
        exact nums_of_owns h (drawn_lt p zs n (by omega) (by omega)) (by simp [drawn]; omega)
      have HN := Lib.hid hN
      clear hd hN
      go_wp2_with (go_at_call 81; refine (clone_any _ _ _ HD.out).mono ?_; rintro e w' ⟨v2, rfl, hv2, hb2⟩)
      go_ret3
      exact ⟨_, v2, rfl, HN.out.below (by assumption), by assumption, HB2.out.trans (Below.mono (by assumption) HB2.out.size)⟩

set_option maxHeartbeats 1000000 in
theorem draw_d (p n : Nat) (zs : List Nat) (b off : Nat) (w : World) (hi : M.isP p = true) (hn : n ≤ 65536) (hl : zs.length ≤ 17592186043904) (hb : b < w.heap.size) (hnl : zs.length < n)
    (h1 : ∀ i, i < zs.length → w.cell? ⟨b, off + i, none⟩ = some (.int .u64 (zs.getD i 0))) (hz : ∀ n ∈ zs, n < 18446744073709551616) :
    Calls Try.prog 51 #[.int .u64 p, .slice (some ⟨b, off, none⟩) zs.length zs.length, .int .i64 n] w (Drew w p zs n) := by
  obtain ⟨h3, hp⟩ := M.pos_of hi
  have HC := Lib.hid (valid0 p w (by omega) hi)
  have H1 := Lib.hid h1
  have HZ := Lib.hid hz
  obtain ⟨i0, hi0, hz0, hz1, hz2⟩ := info_parts infoU64
  clear h1 hi hz
  go_enter Try.func51, Try.ntmps51
  go_wp2_with (first | (go_at_call 80; refine HC.out.mono ?_; rintro e w' ⟨rfl, rfl⟩) | (refine wpList_make_full _ rfl _ _ 31 rfl w.heap.size 22 i0 (.int .u64 0) 1 Try.underlying31 hi0 hz0 hz1 .i64 .i64 _ _ n rfl rfl rfl rfl ?c1 ?c2 ?c3 ?_))
  case c1 => rw [hz2]; omega
  case c2 => unfold maxLen; omega
  case c3 => exact Nat.le_refl _
  intro w1 hown hgrow
  rw [toList_madeCells_one, ← part_zero p zs n] at hown
  have HB := Lib.hid ((Below.refl w.heap.size w).grown hgrow (Nat.le_refl _) (by simp))
  have HO := Lib.hid hown
  clear hown hgrow
  go_wp2
  go_loopw [34] (fun t wr => ∃ k : Nat, k ≤ zs.length ∧ t = .int .i64 k ∧ wr.ownsRow w.heap.size 22 1 (.slice (some ⟨w.heap.size, 0, none⟩) n n) n (vals (part p zs n k)) ∧ Below w.heap.size w wr) (fun t _ => zs.length - (intOf t).toNat)
  case atStart => exact ⟨0, by omega, rfl, HO.out, HB.out⟩
  case round =>
    obtain ⟨k, hk, rfl, hown, hbw⟩ := hrel
    have HB2 := Lib.hid hbw
    have HO2 := Lib.hid hown
    clear hown hbw
    by_cases hlt : k < zs.length
    · have c1 : wr.cell? ⟨b, off + k, none⟩ = some (.int .u64 (zs.getD k 0)) := (HB2.out.cell (p := ⟨b, off + k, none⟩) hb).trans (H1.out k (by omega))
      have hx64 : zs.getD k 0 < 18446744073709551616 := by
        rw [List.getD_eq_getElem?_getD, List.getElem?_eq_getElem (by omega)]
        exact HZ.out _ (List.getElem_mem (by omega))
      have hst := HO2.out.stored k (.int .u64 ((zs.getD k 0 % p : Nat) : Int))
      rw [part_set p zs n k (by omega)] at hst
      obtain ⟨x, hx⟩ : ∃ x, x = zs.getD k 0 := ⟨_, rfl⟩
      rw [← hx] at c1 hx64 hst
      clear hx
      rw [Int.natCast_emod] at hst
      have HS := Lib.hid hst
      have c2 : wr.cell? ⟨w.heap.size, k, none⟩ = some (.int .u64 ((if k < k then zs.getD k 0 % p else 0 : Nat) : Int)) := (HO2.out.cellAt k (by omega)).trans (part_get p zs n k k (by omega))
      rw [if_neg (by omega)] at c2
      have c3 : wr.frozen? ⟨w.heap.size, k, none⟩ = false := HO2.out.frozenAt k
      have hkn : (k : Int) < (n : Nat) := by omega
      clear hst
      go_wp2
      go_roundw
      case rel => exact ⟨k + 1, by omega, by go_num, HS.out.1, HB2.out.setCell (by simp) _⟩
      case measure => simp [intOf]; omega
    · have hkU : k = zs.length := by omega
      subst hkU
      have hd : Nums wr (.slice (some ⟨b, off, none⟩) 0 0) (zs.drop n) := by
        refine ⟨fun x hx => HZ.out x (List.mem_of_mem_drop hx), by simp; omega, ?_⟩
        left
        exact ⟨_, _, rfl, List.drop_eq_nil_of_le (by omega), by simp⟩
      have HD := Lib.hid hd
      have hN : Nums wr (.slice (some ⟨w.heap.size, 0, none⟩) n n) (drawn p zs n) := by
        have h := HO2.out
        rw [part_full p zs n _ (.inr (by omega))] at h
        exact nums_of_owns h (drawn_lt p zs n (by omega) (by omega)) (by simp [drawn]; omega)
      have HN := Lib.hid hN
      clear hd hN
      go_wp2_with (go_at_call 81; refine (clone_any _ _ _ HD.out).mono ?_; rintro e w' ⟨v2, rfl, hv2, hb2⟩)
      go_ret3
      exact ⟨_, v2, rfl, HN.out.below (by assumption), by assumption, HB2.out.trans (Below.mono (by assumption) HB2.out.size)⟩

set_option maxHeartbeats 1000000 in
theorem draw_e (p n : Nat) (a : Option Addr) (cap : Nat) (w : World) (hi : M.isP p = true) (hn : n ≤ 65536) (h0 : 0 < n) (hnn : a = none → cap = 0) :
    Calls Try.prog 51 #[.int .u64 p, .slice a 0 cap, .int .i64 n] w (Drew w p [] n) := by
  obtain ⟨h3, hp⟩ := M.pos_of hi
  have HC := Lib.hid (valid0 p w (by omega) hi)
  obtain ⟨i0, hi0, hz0, hz1, hz2⟩ := info_parts infoU64
  have HNN := Lib.hid hnn
  clear hi hnn
  go_enter Try.func51, Try.ntmps51
  go_wp2_with (first | (go_at_call 80; refine HC.out.mono ?_; rintro e w' ⟨rfl, rfl⟩) | (refine wpList_make_full _ rfl _ _ 31 rfl w.heap.size 22 i0 (.int .u64 0) 1 Try.underlying31 hi0 hz0 hz1 .i64 .i64 _ _ n rfl rfl rfl rfl ?c1 ?c2 ?c3 ?_))
  case c1 => rw [hz2]; omega
  case c2 => unfold maxLen; omega
  case c3 => exact Nat.le_refl _
  intro w1 hown hgrow
  rw [toList_madeCells_one, ← part_zero p [] n] at hown
  have HB := Lib.hid ((Below.refl w.heap.size w).grown hgrow (Nat.le_refl _) (by simp))
  have HO := Lib.hid hown
  clear hown hgrow
  go_wp2
  go_loopw [34] (fun t wr => t = .int .i64 0 ∧ wr.ownsRow w.heap.size 22 1 (.slice (some ⟨w.heap.size, 0, none⟩) n n) n (vals (part p [] n 0)) ∧ Below w.heap.size w wr) (fun _ _ => 0)
  case atStart => exact ⟨rfl, HO.out, HB.out⟩
  case round =>
    obtain ⟨rfl, hown, hbw⟩ := hrel
    have HB2 := Lib.hid hbw
    have hd : Nums wr (.slice a 0 cap) [] := ⟨by simp, by simp, .inl ⟨a, cap, rfl, rfl, HNN.out⟩⟩
    have HD := Lib.hid hd
    have hN : Nums wr (.slice (some ⟨w.heap.size, 0, none⟩) n n) (drawn p [] n) := by
      rw [part_full p [] n _ (.inr (by simp))] at hown
      exact nums_of_owns hown (drawn_lt p [] n (by omega) (by omega)) (by simp [drawn]; try omega)
    have HN := Lib.hid hN
    clear hd hN hown hbw
    go_wp2_with (go_at_call 81; refine (clone_any _ _ _ HD.out).mono ?_; rintro e w' ⟨v2, rfl, hv2, hb2⟩)
    go_ret3
    exact ⟨_, v2, rfl, HN.out.below (by assumption), by rw [List.drop_nil]; assumption, HB2.out.trans (Below.mono (by assumption) HB2.out.size)⟩

set_option maxHeartbeats 1000000 in
theorem draw_f (p : Nat) (a : Option Addr) (cap : Nat) (w : World) (hi : M.isP p = true) (hnn : a = none → cap = 0) :
    Calls Try.prog 51 #[.int .u64 p, .slice a 0 cap, .int .i64 0] w (Drew w p [] 0) := by
  obtain ⟨h3, hp⟩ := M.pos_of hi
  have HC := Lib.hid (valid0 p w (by omega) hi)
  obtain ⟨i0, hi0, hz0, hz1, hz2⟩ := info_parts infoU64
  have HNN := Lib.hid hnn
  clear hi hnn
  go_enter Try.func51, Try.ntmps51
  go_wp2_with (first | (go_at_call 80; refine HC.out.mono ?_; rintro e w' ⟨rfl, rfl⟩) | (refine wpList_make_full _ rfl _ _ 31 rfl w.heap.size 22 i0 (.int .u64 0) 1 Try.underlying31 hi0 hz0 hz1 .i64 .i64 _ _ 0 rfl rfl rfl rfl ?c1 ?c2 ?c3 ?_))
  case c1 => rw [hz2]; omega
  case c2 => unfold maxLen; omega
  case c3 => exact Nat.le_refl _
  intro w1 hown hgrow
  rw [toList_madeCells_one, ← part_zero p [] 0] at hown
  have HB := Lib.hid ((Below.refl w.heap.size w).grown hgrow (Nat.le_refl _) (by simp))
  have HO := Lib.hid hown
  clear hown hgrow
  go_wp2
  go_loopw [34] (fun t wr => t = .int .i64 0 ∧ wr.ownsRow w.heap.size 22 1 (.slice (some ⟨w.heap.size, 0, none⟩) 0 0) 0 (vals (part p [] 0 0)) ∧ Below w.heap.size w wr) (fun _ _ => 0)
  case atStart => exact ⟨rfl, HO.out, HB.out⟩
  case round =>
    obtain ⟨rfl, hown, hbw⟩ := hrel
    have HB2 := Lib.hid hbw
    have hd : Nums wr (.slice a 0 cap) [] := ⟨by simp, by simp, .inl ⟨a, cap, rfl, rfl, HNN.out⟩⟩
    have HD := Lib.hid hd
    have hN : Nums wr (.slice (some ⟨w.heap.size, 0, none⟩) 0 0) (drawn p [] 0) := by
      rw [part_full p [] 0 _ (.inr (by simp))] at hown
      exact nums_of_owns hown (drawn_lt p [] 0 (by omega) (by omega)) (by simp [drawn]; try omega)
    have HN := Lib.hid hN
    clear hd hN hown hbw
    go_wp2_with (go_at_call 81; refine (clone_any _ _ _ HD.out).mono ?_; rintro e w' ⟨v2, rfl, hv2, hb2⟩)
    go_ret3
    exact ⟨_, v2, rfl, HN.out.below (by assumption), by rw [List.drop_nil]; assumption, HB2.out.trans (Below.mono (by assumption) HB2.out.size)⟩

theorem draw_any (p n : Nat) (v : Value) (zs : List Nat) (w : World) (hi : M.isP p = true) (hn : n ≤ 65536) (hv : Nums w v zs) :
    Calls Try.prog 51 #[.int .u64 p, v, .int .i64 n] w (Drew w p zs n) := by
  obtain ⟨h1, h2, h3⟩ := hv
  rcases h3 with ⟨a, cap, rfl, rfl, hnn⟩ | ⟨b, off, cap, rfl, hc, hb, hcell⟩
  · by_cases h0 : n = 0
    · subst h0; exact draw_f p a cap w hi hnn
    · exact draw_e p n a cap w hi hn (by omega) hnn
  · by_cases hle : n ≤ zs.length
    · by_cases hcn : n < cap
      · exact draw_a p n cap zs b off w hi hn h2 hb hle hc hcn hcell h1
      · obtain rfl : n = zs.length := by omega
        obtain rfl : cap = zs.length := by omega
        exact draw_b p zs b off w hi hn h2 hb hcell h1
    · by_cases hcl : zs.length < cap
      · exact draw_c p n cap zs b off w hi hn h2 hb (by omega) hcl hcell h1
      · obtain rfl : cap = zs.length := by omega
        exact draw_d p n zs b off w hi hn h2 hb (by omega) hcell h1
end Go.Proofs.Ytfkepkdfpjaniaa
namespace Go.Proofs.Ytfkepkdfpjaniaa
open Go.RowKit
set_option linter.unusedVariables false
set_option maxRecDepth 100000

/-- what the reference's Draw hands back -/
def RefDrew (w : World) (p : Nat) (zs : List Nat) (n : Nat) (e : Ending) (w' : World) : Prop :=
  ∃ v1 v2, e = .returned (.tuple #[v1, v2]) ∧ Nums w' v1 ((List.range n).map fun i => zs.getD i 0 % p) ∧ Nums w' v2 (zs.drop n) ∧ Below w.heap.size w w'

set_option maxHeartbeats 1000000 in
theorem refDraw_a (p n cap : Nat) (zs : List Nat) (b off : Nat) (w : World) (h3 : 3 ≤ p) (hp : p ≤ 65537) (hn : n ≤ 65536) (hl : zs.length ≤ 17592186043904) (hb : b < w.heap.size) (hnl : n ≤ zs.length) (hcl : zs.length ≤ cap) (hcn : n < cap)
    (h1 : ∀ i, i < zs.length → w.cell? ⟨b, off + i, none⟩ = some (.int .u64 (zs.getD i 0))) (hz : ∀ n ∈ zs, n < 18446744073709551616) :
    Calls Try.prog 56 #[.int .u64 p, .slice (some ⟨b, off, none⟩) zs.length cap, .int .i64 n] w (RefDrew w p zs n) := by
  have H1 := Lib.hid h1
  have HZ := Lib.hid hz
  obtain ⟨i0, hi0, hz0, hz1, hz2⟩ := info_parts infoU64
  clear h1 hz
  go_enter Try.func56, Try.ntmps56
  go_wp2_with (refine wpList_make_full _ rfl _ _ 31 rfl w.heap.size 22 i0 (.int .u64 0) 1 Try.underlying31 hi0 hz0 hz1 .i64 .i64 _ _ n rfl rfl rfl rfl ?c1 ?c2 ?c3 ?_)
  case c1 => rw [hz2]; omega
  case c2 => unfold maxLen; omega
  case c3 => exact Nat.le_refl _
  intro w1 hown hgrow
  rw [toList_madeCells_one, ← part_zero p zs n] at hown
  have HB := Lib.hid ((Below.refl w.heap.size w).grown hgrow (Nat.le_refl _) (by simp))
  have HO := Lib.hid hown
  clear hown hgrow
  go_wp2
  go_loopw [9] (fun t wr => ∃ k : Nat, k ≤ n ∧ t = .int .i64 k ∧ wr.ownsRow w.heap.size 22 1 (.slice (some ⟨w.heap.size, 0, none⟩) n n) n (vals (part p zs n k)) ∧ Below w.heap.size w wr) (fun t _ => n - (intOf t).toNat)
  case atStart => exact ⟨0, by omega, rfl, HO.out, HB.out⟩
  case round =>
    obtain ⟨k, hk, rfl, hown, hbw⟩ := hrel
    have HB2 := Lib.hid hbw
    have HO2 := Lib.hid hown
    clear hown hbw
    by_cases hlt : k < n
    · have c1 : wr.cell? ⟨b, off + k, none⟩ = some (.int .u64 (zs.getD k 0)) := (HB2.out.cell (p := ⟨b, off + k, none⟩) hb).trans (H1.out k (by omega))
      have hx64 : zs.getD k 0 < 18446744073709551616 := by
        rw [List.getD_eq_getElem?_getD, List.getElem?_eq_getElem (by omega)]
        exact HZ.out _ (List.getElem_mem (by omega))
      have hst := HO2.out.stored k (.int .u64 ((zs.getD k 0 % p : Nat) : Int))
      rw [part_set p zs n k (by omega)] at hst
      obtain ⟨x, hx⟩ : ∃ x, x = zs.getD k 0 := ⟨_, rfl⟩
      rw [← hx] at c1 hx64 hst
      clear hx
      rw [Int.natCast_emod] at hst
      have HS := Lib.hid hst
      have c2 : wr.cell? ⟨w.heap.size, k, none⟩ = some (.int .u64 ((if k < k then zs.getD k 0 % p else 0 : Nat) : Int)) := (HO2.out.cellAt k (by omega)).trans (part_get p zs n k k (by omega))
      rw [if_neg (by omega)] at c2
      have c3 : wr.frozen? ⟨w.heap.size, k, none⟩ = false := HO2.out.frozenAt k
      have hkn : (k : Int) < (n : Nat) := by omega
      have hkl : (k : Int) < (zs.length : Nat) := by omega
      clear hst
      go_wp2
      go_roundw
      case rel => exact ⟨k + 1, by omega, by go_num, HS.out.1, HB2.out.setCell (by simp) _⟩
      case measure => simp [intOf]; omega
    · have hkU : k = n := by omega
      subst hkU
      have hN : Nums wr (.slice (some ⟨w.heap.size, 0, none⟩) k k) (drawn p zs k) := by
        have h := HO2.out
        rw [part_full p zs k _ (.inl (by omega))] at h
        exact nums_of_owns h (drawn_lt p zs k (by omega) (by omega)) (by simp [drawn]; omega)
      have HN := Lib.hid hN
      have hsz := HB2.out.size
      clear hN
      go_wp2_with (at_builtin; refine wpList_append_own _ rfl _ _ 31 rfl wr.heap.size 22 i0 (.int .u64 0) 1 8 Try.underlying31 hi0 hz0 hz1 hz2 rfl (by decide) _ _ _ rfl (World.ownsRow_made wr #[] 0 (Nat.le_refl _) (by decide) rfl) ⟨b, off + k, none⟩ (zs.length - k) (cap - k) (vals (zs.drop k)) rfl ?d0 ?d1 ?d2 ?d3 ?d4 ?d5 ?_)
      case d0 => simp [vals]
      case d1 =>
        intro j u hu
        have hj : j < zs.length - k := by
          apply Nat.lt_of_not_le; intro hc
          rw [List.getElem?_eq_none (by simp [vals]; omega)] at hu; cases hu
        have h := (HB2.out.cell (p := ⟨b, off + (k + j), none⟩) hb).trans (H1.out (k + j) (by omega))
        rw [Addr.add_lit]
        have hlt2 : b < wr.heap.size := Nat.lt_of_lt_of_le hb hsz
        rw [(Below.cell (Below.alloc (Below.refl wr.heap.size wr) (Nat.le_refl _) (.cells #[] 22)) (p := ⟨b, off + k + j, none⟩) hlt2), Nat.add_assoc, h]
        rw [← hu]
        simp [vals, List.getD_eq_getElem?_getD, show k + j < zs.length by omega]
      case d2 => intro u hu; unfold vals at hu; obtain ⟨z, _, rfl⟩ := List.mem_map.1 hu; rfl
      case d3 => unfold maxLen; omega
      case d4 => omega
      case d5 => simp
      intro v' w2 hown2 hgrow2 _
      have hB3 := ((Below.refl wr.heap.size wr).alloc (Nat.le_refl _) (.cells #[] 22)).grown hgrow2 (by simp) (fun k hk => by simp [Value.ownBlock] at hk; omega)
      have HB3 := Lib.hid hB3
      have hN2 : Nums w2 v' (zs.drop k) := by
        refine nums_of_owns (zs := zs.drop k) (n := zs.length - k) (base := wr.heap.size) ?_ (fun x hx => HZ.out x (List.mem_of_mem_drop hx)) (by rw [List.length_drop]; omega)
        have e : zs.drop k = ((zs.drop k)) := rfl
        simpa [e, vals] using hown2
      have HN2 := Lib.hid hN2
      clear hown2 hgrow2 hB3 hN2 hsz
      go_wp2
      go_ret2
      exact ⟨_, v', rfl, HN.out.below HB3.out, HN2.out, HB2.out.trans (Below.mono HB3.out HB2.out.size)⟩

set_option maxHeartbeats 1000000 in
theorem refDraw_b (p : Nat) (zs : List Nat) (b off : Nat) (w : World) (h3 : 3 ≤ p) (hp : p ≤ 65537) (hn : zs.length ≤ 65536) (hl : zs.length ≤ 17592186043904) (hb : b < w.heap.size) 
    (h1 : ∀ i, i < zs.length → w.cell? ⟨b, off + i, none⟩ = some (.int .u64 (zs.getD i 0))) (hz : ∀ n ∈ zs, n < 18446744073709551616) :
    Calls Try.prog 56 #[.int .u64 p, .slice (some ⟨b, off, none⟩) zs.length zs.length, .int .i64 zs.length] w (RefDrew w p zs zs.length) := by
  have H1 := Lib.hid h1
  have HZ := Lib.hid hz
  obtain ⟨i0, hi0, hz0, hz1, hz2⟩ := info_parts infoU64
  clear h1 hz
  go_enter Try.func56, Try.ntmps56
  go_wp2_with (refine wpList_make_full _ rfl _ _ 31 rfl w.heap.size 22 i0 (.int .u64 0) 1 Try.underlying31 hi0 hz0 hz1 .i64 .i64 _ _ zs.length rfl rfl rfl rfl ?c1 ?c2 ?c3 ?_)
  case c1 => rw [hz2]; omega
  case c2 => unfold maxLen; omega
  case c3 => exact Nat.le_refl _
  intro w1 hown hgrow
  rw [toList_madeCells_one, ← part_zero p zs zs.length] at hown
  have HB := Lib.hid ((Below.refl w.heap.size w).grown hgrow (Nat.le_refl _) (by simp))
  have HO := Lib.hid hown
  clear hown hgrow
  go_wp2
  go_loopw [9] (fun t wr => ∃ k : Nat, k ≤ zs.length ∧ t = .int .i64 k ∧ wr.ownsRow w.heap.size 22 1 (.slice (some ⟨w.heap.size, 0, none⟩) zs.length zs.length) zs.length (vals (part p zs zs.length k)) ∧ Below w.heap.size w wr) (fun t _ => zs.length - (intOf t).toNat)
  case atStart => exact ⟨0, by omega, rfl, HO.out, HB.out⟩
  case round =>
    obtain ⟨k, hk, rfl, hown, hbw⟩ := hrel
    have HB2 := Lib.hid hbw
    have HO2 := Lib.hid hown
    clear hown hbw
    by_cases hlt : k < zs.length
    · have c1 : wr.cell? ⟨b, off + k, none⟩ = some (.int .u64 (zs.getD k 0)) := (HB2.out.cell (p := ⟨b, off + k, none⟩) hb).trans (H1.out k (by omega))
      have hx64 : zs.getD k 0 < 18446744073709551616 := by
        rw [List.getD_eq_getElem?_getD, List.getElem?_eq_getElem (by omega)]
        exact HZ.out _ (List.getElem_mem (by omega))
      have hst := HO2.out.stored k (.int .u64 ((zs.getD k 0 % p : Nat) : Int))
      rw [part_set p zs zs.length k (by omega)] at hst
      obtain ⟨x, hx⟩ : ∃ x, x = zs.getD k 0 := ⟨_, rfl⟩
      rw [← hx] at c1 hx64 hst
      clear hx
      rw [Int.natCast_emod] at hst
      have HS := Lib.hid hst
      have c2 : wr.cell? ⟨w.heap.size, k, none⟩ = some (.int .u64 ((if k < k then zs.getD k 0 % p else 0 : Nat) : Int)) := (HO2.out.cellAt k (by omega)).trans (part_get p zs zs.length k k (by omega))
      rw [if_neg (by omega)] at c2
      have c3 : wr.frozen? ⟨w.heap.size, k, none⟩ = false := HO2.out.frozenAt k
      have hkn : (k : Int) < (zs.length : Nat) := by omega
      have hkl : (k : Int) < (zs.length : Nat) := by omega
      clear hst
      go_wp2
      go_roundw
      case rel => exact ⟨k + 1, by omega, by go_num, HS.out.1, HB2.out.setCell (by simp) _⟩
      case measure => simp [intOf]; omega
    · have hkU : k = zs.length := by omega
      subst hkU
      have hN : Nums wr (.slice (some ⟨w.heap.size, 0, none⟩) zs.length zs.length) (drawn p zs zs.length) := by
        have h := HO2.out
        rw [part_full p zs zs.length _ (.inl (by omega))] at h
        exact nums_of_owns h (drawn_lt p zs zs.length (by omega) (by omega)) (by simp [drawn]; omega)
      have HN := Lib.hid hN
      have hsz := HB2.out.size
      clear hN
      go_wp2_with (at_builtin; refine wpList_append_own _ rfl _ _ 31 rfl wr.heap.size 22 i0 (.int .u64 0) 1 8 Try.underlying31 hi0 hz0 hz1 hz2 rfl (by decide) _ _ _ rfl (World.ownsRow_made wr #[] 0 (Nat.le_refl _) (by decide) rfl) ⟨b, off, none⟩ (0) (0) ([]) rfl ?d0 ?d1 ?d2 ?d3 ?d4 ?d5 ?_)
      case d0 => rfl
      case d1 =>
        intro j u hu
        simp at hu
      case d2 => intro u hu; simp at hu
      case d3 => unfold maxLen; omega
      case d4 => omega
      case d5 => simp
      intro v' w2 hown2 hgrow2 _
      have hB3 := ((Below.refl wr.heap.size wr).alloc (Nat.le_refl _) (.cells #[] 22)).grown hgrow2 (by simp) (fun k hk => by simp [Value.ownBlock] at hk; omega)
      have HB3 := Lib.hid hB3
      have hN2 : Nums w2 v' (zs.drop zs.length) := by
        refine nums_of_owns (zs := zs.drop zs.length) (n := 0) (base := wr.heap.size) ?_ (fun x hx => HZ.out x (List.mem_of_mem_drop hx)) (by rw [List.length_drop]; omega)
        have e : zs.drop zs.length = ([]) := List.drop_eq_nil_of_le (by omega)
        simpa [e] using hown2
      have HN2 := Lib.hid hN2
      clear hown2 hgrow2 hB3 hN2 hsz
      go_wp2
      go_ret2
      exact ⟨_, v', rfl, HN.out.below HB3.out, HN2.out, HB2.out.trans (Below.mono HB3.out HB2.out.size)⟩

set_option maxHeartbeats 1000000 in
theorem refDraw_c (p n cap : Nat) (zs : List Nat) (b off : Nat) (w : World) (h3 : 3 ≤ p) (hp : p ≤ 65537) (hn : n ≤ 65536) (hl : zs.length ≤ 17592186043904) (hb : b < w.heap.size) (hnl : zs.length < n) (hcl : zs.length < cap)
    (h1 : ∀ i, i < zs.length → w.cell? ⟨b, off + i, none⟩ = some (.int .u64 (zs.getD i 0))) (hz : ∀ n ∈ zs, n < 18446744073709551616) :
    Calls Try.prog 56 #[.int .u64 p, .slice (some ⟨b, off, none⟩) zs.length cap, .int .i64 n] w (RefDrew w p zs n) := by
  have H1 := Lib.hid h1
  have HZ := Lib.hid hz
  obtain ⟨i0, hi0, hz0, hz1, hz2⟩ := info_parts infoU64
  clear h1 hz
  go_enter Try.func56, Try.ntmps56
  go_wp2_with (refine wpList_make_full _ rfl _ _ 31 rfl w.heap.size 22 i0 (.int .u64 0) 1 Try.underlying31 hi0 hz0 hz1 .i64 .i64 _ _ n rfl rfl rfl rfl ?c1 ?c2 ?c3 ?_)
  case c1 => rw [hz2]; omega
  case c2 => unfold maxLen; omega
  case c3 => exact Nat.le_refl _
  intro w1 hown hgrow
  rw [toList_madeCells_one, ← part_zero p zs n] at hown
  have HB := Lib.hid ((Below.refl w.heap.size w).grown hgrow (Nat.le_refl _) (by simp))
  have HO := Lib.hid hown
  clear hown hgrow
  go_wp2
  go_loopw [9] (fun t wr => ∃ k : Nat, k ≤ zs.length ∧ t = .int .i64 k ∧ wr.ownsRow w.heap.size 22 1 (.slice (some ⟨w.heap.size, 0, none⟩) n n) n (vals (part p zs n k)) ∧ Below w.heap.size w wr) (fun t _ => zs.length - (intOf t).toNat)
  case atStart => exact ⟨0, by omega, rfl, HO.out, HB.out⟩
  case round =>
    obtain ⟨k, hk, rfl, hown, hbw⟩ := hrel
    have HB2 := Lib.hid hbw
    have HO2 := Lib.hid hown
    clear hown hbw
    by_cases hlt : k < zs.length
    · have c1 : wr.cell? ⟨b, off + k, none⟩ = some (.int .u64 (zs.getD k 0)) := (HB2.out.cell (p := ⟨b, off + k, none⟩) hb).trans (H1.out k (by omega))
      have hx64 : zs.getD k 0 < 18446744073709551616 := by
        rw [List.getD_eq_getElem?_getD, List.getElem?_eq_getElem (by omega)]
        exact HZ.out _ (List.getElem_mem (by omega))
      have hst := HO2.out.stored k (.int .u64 ((zs.getD k 0 % p : Nat) : Int))
      rw [part_set p zs n k (by omega)] at hst
      obtain ⟨x, hx⟩ : ∃ x, x = zs.getD k 0 := ⟨_, rfl⟩
      rw [← hx] at c1 hx64 hst
      clear hx
      rw [Int.natCast_emod] at hst
      have HS := Lib.hid hst
      have c2 : wr.cell? ⟨w.heap.size, k, none⟩ = some (.int .u64 ((if k < k then zs.getD k 0 % p else 0 : Nat) : Int)) := (HO2.out.cellAt k (by omega)).trans (part_get p zs n k k (by omega))
      rw [if_neg (by omega)] at c2
      have c3 : wr.frozen? ⟨w.heap.size, k, none⟩ = false := HO2.out.frozenAt k
      have hkn : (k : Int) < (n : Nat) := by omega
      have hkl : (k : Int) < (zs.length : Nat) := by omega
      clear hst
      go_wp2
      go_roundw
      case rel => exact ⟨k + 1, by omega, by go_num, HS.out.1, HB2.out.setCell (by simp) _⟩
      case measure => simp [intOf]; omega
    · have hkU : k = zs.length := by omega
      subst hkU
      have hN : Nums wr (.slice (some ⟨w.heap.size, 0, none⟩) n n) (drawn p zs n) := by
        have h := HO2.out
        rw [part_full p zs n _ (.inr (by omega))] at h
        exact nums_of_owns h (drawn_lt p zs n (by omega) (by omega)) (by simp [drawn]; omega)
      have HN := Lib.hid hN
      have hsz := HB2.out.size
      clear hN
      go_wp2_with (at_builtin; refine wpList_append_own _ rfl _ _ 31 rfl wr.heap.size 22 i0 (.int .u64 0) 1 8 Try.underlying31 hi0 hz0 hz1 hz2 rfl (by decide) _ _ _ rfl (World.ownsRow_made wr #[] 0 (Nat.le_refl _) (by decide) rfl) ⟨b, off + zs.length, none⟩ (0) (cap - zs.length) ([]) rfl ?d0 ?d1 ?d2 ?d3 ?d4 ?d5 ?_)
      case d0 => rfl
      case d1 =>
        intro j u hu
        simp at hu
      case d2 => intro u hu; simp at hu
      case d3 => unfold maxLen; omega
      case d4 => omega
      case d5 => simp
      intro v' w2 hown2 hgrow2 _
      have hB3 := ((Below.refl wr.heap.size wr).alloc (Nat.le_refl _) (.cells #[] 22)).grown hgrow2 (by simp) (fun k hk => by simp [Value.ownBlock] at hk; omega)
      have HB3 := Lib.hid hB3
      have hN2 : Nums w2 v' (zs.drop n) := by
        refine nums_of_owns (zs := zs.drop n) (n := 0) (base := wr.heap.size) ?_ (fun x hx => HZ.out x (List.mem_of_mem_drop hx)) (by rw [List.length_drop]; omega)
        have e : zs.drop n = ([]) := List.drop_eq_nil_of_le (by omega)
        simpa [e] using hown2
      have HN2 := Lib.hid hN2
      clear hown2 hgrow2 hB3 hN2 hsz
      go_wp2
      go_ret2
      exact ⟨_, v', rfl, HN.out.below HB3.out, HN2.out, HB2.out.trans (Below.mono HB3.out HB2.out.size)⟩

set_option maxHeartbeats 1000000 in
theorem refDraw_d (p n : Nat) (zs : List Nat) (b off : Nat) (w : World) (h3 : 3 ≤ p) (hp : p ≤ 65537) (hn : n ≤ 65536) (hl : zs.length ≤ 17592186043904) (hb : b < w.heap.size) (hnl : zs.length < n)
    (h1 : ∀ i, i < zs.length → w.cell? ⟨b, off + i, none⟩ = some (.int .u64 (zs.getD i 0))) (hz : ∀ n ∈ zs, n < 18446744073709551616) :
    Calls Try.prog 56 #[.int .u64 p, .slice (some ⟨b, off, none⟩) zs.length zs.length, .int .i64 n] w (RefDrew w p zs n) := by
  have H1 := Lib.hid h1
  have HZ := Lib.hid hz
  obtain ⟨i0, hi0, hz0, hz1, hz2⟩ := info_parts infoU64
  clear h1 hz
  go_enter Try.func56, Try.ntmps56
  go_wp2_with (refine wpList_make_full _ rfl _ _ 31 rfl w.heap.size 22 i0 (.int .u64 0) 1 Try.underlying31 hi0 hz0 hz1 .i64 .i64 _ _ n rfl rfl rfl rfl ?c1 ?c2 ?c3 ?_)
  case c1 => rw [hz2]; omega
  case c2 => unfold maxLen; omega
  case c3 => exact Nat.le_refl _
  intro w1 hown hgrow
  rw [toList_madeCells_one, ← part_zero p zs n] at hown
  have HB := Lib.hid ((Below.refl w.heap.size w).grown hgrow (Nat.le_refl _) (by simp))
  have HO := Lib.hid hown
  clear hown hgrow
  go_wp2
  go_loopw [9] (fun t wr => ∃ k : Nat, k ≤ zs.length ∧ t = .int .i64 k ∧ wr.ownsRow w.heap.size 22 1 (.slice (some ⟨w.heap.size, 0, none⟩) n n) n (vals (part p zs n k)) ∧ Below w.heap.size w wr) (fun t _ => zs.length - (intOf t).toNat)
  case atStart => exact ⟨0, by omega, rfl, HO.out, HB.out⟩
  case round =>
    obtain ⟨k, hk, rfl, hown, hbw⟩ := hrel
    have HB2 := Lib.hid hbw
    have HO2 := Lib.hid hown
    clear hown hbw
    by_cases hlt : k < zs.length
    · have c1 : wr.cell? ⟨b, off + k, none⟩ = some (.int .u64 (zs.getD k 0)) := (HB2.out.cell (p := ⟨b, off + k, none⟩) hb).trans (H1.out k (by omega))
      have hx64 : zs.getD k 0 < 18446744073709551616 := by
        rw [List.getD_eq_getElem?_getD, List.getElem?_eq_getElem (by omega)]
        exact HZ.out _ (List.getElem_mem (by omega))
      have hst := HO2.out.stored k (.int .u64 ((zs.getD k 0 % p : Nat) : Int))
      rw [part_set p zs n k (by omega)] at hst
      obtain ⟨x, hx⟩ : ∃ x, x = zs.getD k 0 := ⟨_, rfl⟩
      rw [← hx] at c1 hx64 hst
      clear hx
      rw [Int.natCast_emod] at hst
      have HS := Lib.hid hst
      have c2 : wr.cell? ⟨w.heap.size, k, none⟩ = some (.int .u64 ((if k < k then zs.getD k 0 % p else 0 : Nat) : Int)) := (HO2.out.cellAt k (by omega)).trans (part_get p zs n k k (by omega))
      rw [if_neg (by omega)] at c2
      have c3 : wr.frozen? ⟨w.heap.size, k, none⟩ = false := HO2.out.frozenAt k
      have hkn : (k : Int) < (n : Nat) := by omega
      have hkl : (k : Int) < (zs.length : Nat) := by omega
      clear hst
      go_wp2
      go_roundw
      case rel => exact ⟨k + 1, by omega, by go_num, HS.out.1, HB2.out.setCell (by simp) _⟩
      case measure => simp [intOf]; omega
    · have hkU : k = zs.length := by omega
      subst hkU
      have hN : Nums wr (.slice (some ⟨w.heap.size, 0, none⟩) n n) (drawn p zs n) := by
        have h := HO2.out
        rw [part_full p zs n _ (.inr (by omega))] at h
        exact nums_of_owns h (drawn_lt p zs n (by omega) (by omega)) (by simp [drawn]; omega)
      have HN := Lib.hid hN
      have hsz := HB2.out.size
      clear hN
      go_wp2_with (at_builtin; refine wpList_append_own _ rfl _ _ 31 rfl wr.heap.size 22 i0 (.int .u64 0) 1 8 Try.underlying31 hi0 hz0 hz1 hz2 rfl (by decide) _ _ _ rfl (World.ownsRow_made wr #[] 0 (Nat.le_refl _) (by decide) rfl) ⟨b, off, none⟩ (0) (0) ([]) rfl ?d0 ?d1 ?d2 ?d3 ?d4 ?d5 ?_)
      case d0 => rfl
      case d1 =>
        intro j u hu
        simp at hu
      case d2 => intro u hu; simp at hu
      case d3 => unfold maxLen; omega
      case d4 => omega
      case d5 => simp
      intro v' w2 hown2 hgrow2 _
      have hB3 := ((Below.refl wr.heap.size wr).alloc (Nat.le_refl _) (.cells #[] 22)).grown hgrow2 (by simp) (fun k hk => by simp [Value.ownBlock] at hk; omega)
      have HB3 := Lib.hid hB3
      have hN2 : Nums w2 v' (zs.drop n) := by
        refine nums_of_owns (zs := zs.drop n) (n := 0) (base := wr.heap.size) ?_ (fun x hx => HZ.out x (List.mem_of_mem_drop hx)) (by rw [List.length_drop]; omega)
        have e : zs.drop n = ([]) := List.drop_eq_nil_of_le (by omega)
        simpa [e] using hown2
      have HN2 := Lib.hid hN2
      clear hown2 hgrow2 hB3 hN2 hsz
      go_wp2
      go_ret2
      exact ⟨_, v', rfl, HN.out.below HB3.out, HN2.out, HB2.out.trans (Below.mono HB3.out HB2.out.size)⟩

set_option maxHeartbeats 1000000 in
theorem refDraw_es (p n : Nat) (x : Addr) (cap : Nat) (w : World) (h3 : 3 ≤ p) (hp : p ≤ 65537) (hn : n ≤ 65536) (h0 : 0 < n):
    Calls Try.prog 56 #[.int .u64 p, .slice (some x) 0 cap, .int .i64 n] w (RefDrew w p [] n) := by
  obtain ⟨i0, hi0, hz0, hz1, hz2⟩ := info_parts infoU64
  go_enter Try.func56, Try.ntmps56
  go_wp2_with (refine wpList_make_full _ rfl _ _ 31 rfl w.heap.size 22 i0 (.int .u64 0) 1 Try.underlying31 hi0 hz0 hz1 .i64 .i64 _ _ n rfl rfl rfl rfl ?c1 ?c2 ?c3 ?_)
  case c1 => rw [hz2]; omega
  case c2 => unfold maxLen; omega
  case c3 => exact Nat.le_refl _
  intro w1 hown hgrow
  rw [toList_madeCells_one, ← part_zero p [] n] at hown
  have HB := Lib.hid ((Below.refl w.heap.size w).grown hgrow (Nat.le_refl _) (by simp))
  have HO := Lib.hid hown
  clear hown hgrow
  go_wp2
  go_loopw [9] (fun t wr => t = .int .i64 0 ∧ wr.ownsRow w.heap.size 22 1 (.slice (some ⟨w.heap.size, 0, none⟩) n n) n (vals (part p [] n 0)) ∧ Below w.heap.size w wr) (fun _ _ => 0)
  case atStart => exact ⟨rfl, HO.out, HB.out⟩
  case round =>
    obtain ⟨rfl, hown, hbw⟩ := hrel
    have HB2 := Lib.hid hbw
    have hN : Nums wr (.slice (some ⟨w.heap.size, 0, none⟩) n n) (drawn p [] n) := by
      rw [part_full p [] n _ (.inr (by simp))] at hown
      exact nums_of_owns hown (drawn_lt p [] n (by omega) (by omega)) (by simp [drawn]; try omega)
    have HN := Lib.hid hN
    clear hN hown hbw
    go_wp2_with (at_builtin; refine wpList_append_own _ rfl _ _ 31 rfl wr.heap.size 22 i0 (.int .u64 0) 1 8 Try.underlying31 hi0 hz0 hz1 hz2 rfl (by decide) _ _ _ rfl (World.ownsRow_made wr #[] 0 (Nat.le_refl _) (by decide) rfl) _ 0 _ [] rfl rfl (by intro j u hu; simp at hu) (by intro u hu; simp at hu) (by unfold maxLen; omega) (by omega) ?d5 ?_)
    case d5 => simp
    intro v' w2 hown2 hgrow2 _
    have hB3 := ((Below.refl wr.heap.size wr).alloc (Nat.le_refl _) (.cells #[] 22)).grown hgrow2 (by simp) (fun k hk => by simp [Value.ownBlock] at hk; omega)
    have HB3 := Lib.hid hB3
    have hN2 : Nums w2 v' [] := nums_of_owns (zs := []) (n := 0) (base := wr.heap.size) (by simpa using hown2) (by simp) (by simp)
    have HN2 := Lib.hid hN2
    clear hown2 hgrow2 hB3 hN2
    go_wp2
    go_ret2
    exact ⟨_, v', rfl, HN.out.below HB3.out, by rw [List.drop_nil]; exact HN2.out, HB2.out.trans (Below.mono HB3.out HB2.out.size)⟩

set_option maxHeartbeats 1000000 in
theorem refDraw_en (p n : Nat) (w : World) (h3 : 3 ≤ p) (hp : p ≤ 65537) (hn : n ≤ 65536) (h0 : 0 < n):
    Calls Try.prog 56 #[.int .u64 p, .slice none 0 0, .int .i64 n] w (RefDrew w p [] n) := by
  obtain ⟨i0, hi0, hz0, hz1, hz2⟩ := info_parts infoU64
  go_enter Try.func56, Try.ntmps56
  go_wp2_with (refine wpList_make_full _ rfl _ _ 31 rfl w.heap.size 22 i0 (.int .u64 0) 1 Try.underlying31 hi0 hz0 hz1 .i64 .i64 _ _ n rfl rfl rfl rfl ?c1 ?c2 ?c3 ?_)
  case c1 => rw [hz2]; omega
  case c2 => unfold maxLen; omega
  case c3 => exact Nat.le_refl _
  intro w1 hown hgrow
  rw [toList_madeCells_one, ← part_zero p [] n] at hown
  have HB := Lib.hid ((Below.refl w.heap.size w).grown hgrow (Nat.le_refl _) (by simp))
  have HO := Lib.hid hown
  clear hown hgrow
  go_wp2
  go_loopw [9] (fun t wr => t = .int .i64 0 ∧ wr.ownsRow w.heap.size 22 1 (.slice (some ⟨w.heap.size, 0, none⟩) n n) n (vals (part p [] n 0)) ∧ Below w.heap.size w wr) (fun _ _ => 0)
  case atStart => exact ⟨rfl, HO.out, HB.out⟩
  case round =>
    obtain ⟨rfl, hown, hbw⟩ := hrel
    have HB2 := Lib.hid hbw
    have hN : Nums wr (.slice (some ⟨w.heap.size, 0, none⟩) n n) (drawn p [] n) := by
      rw [part_full p [] n _ (.inr (by simp))] at hown
      exact nums_of_owns hown (drawn_lt p [] n (by omega) (by omega)) (by simp [drawn]; try omega)
    have HN := Lib.hid hN
    clear hN hown hbw
    go_wp2_with (at_builtin; refine wpList_append_own_none rfl _ _ 31 rfl wr.heap.size 22 i0 1 Try.underlying31 hi0 _ _ _ rfl (World.ownsRow_made wr #[] 0 (Nat.le_refl _) (by decide) rfl) rfl ?_)
    have hN2 : Nums (wr.alloc (.cells #[] 22)) (.slice (some ⟨wr.heap.size, 0, none⟩) 0 0) [] := ⟨by simp, by simp, .inl ⟨_, _, rfl, rfl, by simp⟩⟩
    have HN2 := Lib.hid hN2
    clear hN2
    go_wp2
    go_ret2
    exact ⟨_, _, rfl, HN.out.below ((Below.refl _ _).alloc (Nat.le_refl _) _), by rw [List.drop_nil]; exact HN2.out, HB2.out.alloc HB2.out.size _⟩

set_option maxHeartbeats 1000000 in
theorem refDraw_fs (p : Nat) (x : Addr) (cap : Nat) (w : World) (h3 : 3 ≤ p) (hp : p ≤ 65537) :
    Calls Try.prog 56 #[.int .u64 p, .slice (some x) 0 cap, .int .i64 0] w (RefDrew w p [] 0) := by
  obtain ⟨i0, hi0, hz0, hz1, hz2⟩ := info_parts infoU64
  go_enter Try.func56, Try.ntmps56
  go_wp2_with (refine wpList_make_full _ rfl _ _ 31 rfl w.heap.size 22 i0 (.int .u64 0) 1 Try.underlying31 hi0 hz0 hz1 .i64 .i64 _ _ 0 rfl rfl rfl rfl ?c1 ?c2 ?c3 ?_)
  case c1 => rw [hz2]; omega
  case c2 => unfold maxLen; omega
  case c3 => exact Nat.le_refl _
  intro w1 hown hgrow
  rw [toList_madeCells_one, ← part_zero p [] 0] at hown
  have HB := Lib.hid ((Below.refl w.heap.size w).grown hgrow (Nat.le_refl _) (by simp))
  have HO := Lib.hid hown
  clear hown hgrow
  go_wp2
  go_loopw [9] (fun t wr => t = .int .i64 0 ∧ wr.ownsRow w.heap.size 22 1 (.slice (some ⟨w.heap.size, 0, none⟩) 0 0) 0 (vals (part p [] 0 0)) ∧ Below w.heap.size w wr) (fun _ _ => 0)
  case atStart => exact ⟨rfl, HO.out, HB.out⟩
  case round =>
    obtain ⟨rfl, hown, hbw⟩ := hrel
    have HB2 := Lib.hid hbw
    have hN : Nums wr (.slice (some ⟨w.heap.size, 0, none⟩) 0 0) (drawn p [] 0) := by
      rw [part_full p [] 0 _ (.inr (by simp))] at hown
      exact nums_of_owns hown (drawn_lt p [] 0 (by omega) (by omega)) (by simp [drawn]; try omega)
    have HN := Lib.hid hN
    clear hN hown hbw
    go_wp2_with (at_builtin; refine wpList_append_own _ rfl _ _ 31 rfl wr.heap.size 22 i0 (.int .u64 0) 1 8 Try.underlying31 hi0 hz0 hz1 hz2 rfl (by decide) _ _ _ rfl (World.ownsRow_made wr #[] 0 (Nat.le_refl _) (by decide) rfl) _ 0 _ [] rfl rfl (by intro j u hu; simp at hu) (by intro u hu; simp at hu) (by unfold maxLen; omega) (by omega) ?d5 ?_)
    case d5 => simp
    intro v' w2 hown2 hgrow2 _
    have hB3 := ((Below.refl wr.heap.size wr).alloc (Nat.le_refl _) (.cells #[] 22)).grown hgrow2 (by simp) (fun k hk => by simp [Value.ownBlock] at hk; omega)
    have HB3 := Lib.hid hB3
    have hN2 : Nums w2 v' [] := nums_of_owns (zs := []) (n := 0) (base := wr.heap.size) (by simpa using hown2) (by simp) (by simp)
    have HN2 := Lib.hid hN2
    clear hown2 hgrow2 hB3 hN2
    go_wp2
    go_ret2
    exact ⟨_, v', rfl, HN.out.below HB3.out, by rw [List.drop_nil]; exact HN2.out, HB2.out.trans (Below.mono HB3.out HB2.out.size)⟩

set_option maxHeartbeats 1000000 in
theorem refDraw_fn (p : Nat) (w : World) (h3 : 3 ≤ p) (hp : p ≤ 65537) :
    Calls Try.prog 56 #[.int .u64 p, .slice none 0 0, .int .i64 0] w (RefDrew w p [] 0) := by
  obtain ⟨i0, hi0, hz0, hz1, hz2⟩ := info_parts infoU64
  go_enter Try.func56, Try.ntmps56
  go_wp2_with (refine wpList_make_full _ rfl _ _ 31 rfl w.heap.size 22 i0 (.int .u64 0) 1 Try.underlying31 hi0 hz0 hz1 .i64 .i64 _ _ 0 rfl rfl rfl rfl ?c1 ?c2 ?c3 ?_)
  case c1 => rw [hz2]; omega
  case c2 => unfold maxLen; omega
  case c3 => exact Nat.le_refl _
  intro w1 hown hgrow
  rw [toList_madeCells_one, ← part_zero p [] 0] at hown
  have HB := Lib.hid ((Below.refl w.heap.size w).grown hgrow (Nat.le_refl _) (by simp))
  have HO := Lib.hid hown
  clear hown hgrow
  go_wp2
  go_loopw [9] (fun t wr => t = .int .i64 0 ∧ wr.ownsRow w.heap.size 22 1 (.slice (some ⟨w.heap.size, 0, none⟩) 0 0) 0 (vals (part p [] 0 0)) ∧ Below w.heap.size w wr) (fun _ _ => 0)
  case atStart => exact ⟨rfl, HO.out, HB.out⟩
  case round =>
    obtain ⟨rfl, hown, hbw⟩ := hrel
    have HB2 := Lib.hid hbw
    have hN : Nums wr (.slice (some ⟨w.heap.size, 0, none⟩) 0 0) (drawn p [] 0) := by
      rw [part_full p [] 0 _ (.inr (by simp))] at hown
      exact nums_of_owns hown (drawn_lt p [] 0 (by omega) (by omega)) (by simp [drawn]; try omega)
    have HN := Lib.hid hN
    clear hN hown hbw
    go_wp2_with (at_builtin; refine wpList_append_own_none rfl _ _ 31 rfl wr.heap.size 22 i0 1 Try.underlying31 hi0 _ _ _ rfl (World.ownsRow_made wr #[] 0 (Nat.le_refl _) (by decide) rfl) rfl ?_)
    have hN2 : Nums (wr.alloc (.cells #[] 22)) (.slice (some ⟨wr.heap.size, 0, none⟩) 0 0) [] := ⟨by simp, by simp, .inl ⟨_, _, rfl, rfl, by simp⟩⟩
    have HN2 := Lib.hid hN2
    clear hN2
    go_wp2
    go_ret2
    exact ⟨_, _, rfl, HN.out.below ((Below.refl _ _).alloc (Nat.le_refl _) _), by rw [List.drop_nil]; exact HN2.out, HB2.out.alloc HB2.out.size _⟩

theorem refDraw_any (p n : Nat) (v : Value) (zs : List Nat) (w : World) (h3 : 3 ≤ p) (hp : p ≤ 65537) (hn : n ≤ 65536) (hv : Nums w v zs) :
    Calls Try.prog 56 #[.int .u64 p, v, .int .i64 n] w (RefDrew w p zs n) := by
  obtain ⟨h1, h2, h3'⟩ := hv
  rcases h3' with ⟨a, cap, rfl, rfl, hnn⟩ | ⟨b, off, cap, rfl, hc, hb, hcell⟩
  · cases a with
    | none =>
      obtain rfl := hnn rfl
      by_cases h0 : n = 0
      · subst h0; exact refDraw_fn p w h3 hp
      · exact refDraw_en p n w h3 hp hn (by omega)
    | some x =>
      by_cases h0 : n = 0
      · subst h0; exact refDraw_fs p x cap w h3 hp
      · exact refDraw_es p n x cap w h3 hp hn (by omega)
  · by_cases hle : n ≤ zs.length
    · by_cases hcn : n < cap
      · exact refDraw_a p n cap zs b off w h3 hp hn h2 hb hle hc hcn hcell h1
      · obtain rfl : n = zs.length := by omega
        obtain rfl : cap = zs.length := by omega
        exact refDraw_b p zs b off w h3 hp hn h2 hb hcell h1
    · by_cases hcl : zs.length < cap
      · exact refDraw_c p n cap zs b off w h3 hp hn h2 hb (by omega) hcl hcell h1
      · obtain rfl : cap = zs.length := by omega
        exact refDraw_d p n zs b off w h3 hp hn h2 hb (by omega) hcell h1
end Go.Proofs.Ytfkepkdfpjaniaa
