/-
  Layer 4's law: is; the reference's Draw and Make; cells that stay (merged).
-/
import Derived.Test.YtgoognipljknjaaShare4
import Derived.Laws.AppendOwnNone
import Derived.Test.YtgoognipljknjaaRef2a
namespace Go.Proofs.Ytgoognipljknjaa
open Go.RowKit
set_option linter.unusedVariables false
set_option maxRecDepth 100000

/-- what the reference's Draw hands back -/
def RefDrew (w : World) (p : Nat) (zs : List Nat) (n : Nat) (e : Ending) (w' : World) : Prop :=
  ∃ v1 v2, e = .returned (.tuple #[v1, v2]) ∧ Nums w' v1 ((List.range n).map fun i => zs.getD i 0 % p) ∧ Nums w' v2 (zs.drop n) ∧ Below w.heap.size w w'

set_option maxHeartbeats 1000000 in
theorem refDraw_a (p n cap : Nat) (zs : List Nat) (b off : Nat) (w : World) (h3 : 3 ≤ p) (hp : p ≤ 65537) (hn : n ≤ 65536) (hl : zs.length ≤ 17592186043904) (hb : b < w.heap.size) (hnl : n ≤ zs.length) (hcl : zs.length ≤ cap) (hcn : n < cap)
    (h1 : ∀ i, i < zs.length → w.cell? ⟨b, off + i, none⟩ = some (.int .u64 (zs.getD i 0))) (hz : ∀ n ∈ zs, n < 18446744073709551616) :
    Calls Try.prog 72 #[.int .u64 p, .slice (some ⟨b, off, none⟩) zs.length cap, .int .i64 n] w (RefDrew w p zs n) := by
  have H1 := Lib.hid h1
  have HZ := Lib.hid hz
  obtain ⟨i0, hi0, hz0, hz1, hz2⟩ := info_parts infoU64
  clear h1 hz
  go_enter Try.func72, Try.ntmps72
  go_wp2_with (refine wpList_make_full _ rfl _ _ 24 rfl w.heap.size 22 i0 (.int .u64 0) 1 Try.underlying24 hi0 hz0 hz1 .i64 .i64 _ _ n rfl rfl rfl rfl ?c1 ?c2 ?c3 ?_)
  case c1 => rw [hz2]; omega
  case c2 => unfold maxLen; omega
  case c3 => exact Nat.le_refl _
  intro w1 hown hgrow
  rw [toList_madeCells_one, ← part_zero p zs n] at hown
  have HB := Lib.hid ((Below.refl w.heap.size w).grown hgrow (Nat.le_refl _) (by simp))
  have HO := Lib.hid hown
  clear hown hgrow
  go_wp2
  go_loopw [9] (fun t wr => ∃ k : Nat, k ≤ n ∧ t = .int .i64 k ∧ wr.ownsRow w.heap.size 22 1 (.slice (some ⟨w.heap.size, 0, none⟩) n n) n (vals (part p zs n k)) ∧ Below w.heap.size w wr) (fun t _ => n - (intOf t).toNat)
  case atStart => exact ⟨0, by omega, rfl, HO.out, HB.out⟩
  case round =>
    obtain ⟨k, hk, rfl, hown, hbw⟩ := hrel
    have HB2 := Lib.hid hbw
    have HO2 := Lib.hid hown
    clear hown hbw
    by_cases hlt : k < n
    · have c1 : wr.cell? ⟨b, off + k, none⟩ = some (.int .u64 (zs.getD k 0)) := (HB2.out.cell (p := ⟨b, off + k, none⟩) hb).trans (H1.out k (by omega))
      have hx64 : zs.getD k 0 < 18446744073709551616 := by
        rw [List.getD_eq_getElem?_getD, List.getElem?_eq_getElem (by omega)]
        exact HZ.out _ (List.getElem_mem (by omega))
      have hst := HO2.out.stored k (.int .u64 ((zs.getD k 0 % p : Nat) : Int))
      rw [part_set p zs n k (by omega)] at hst
      obtain ⟨x, hx⟩ : ∃ x, x = zs.getD k 0 := ⟨_, rfl⟩
      rw [← hx] at c1 hx64 hst
      clear hx
      rw [Int.natCast_emod] at hst
      have HS := Lib.hid hst
      have c2 : wr.cell? ⟨w.heap.size, k, none⟩ = some (.int .u64 ((if k < k then zs.getD k 0 % p else 0 : Nat) : Int)) := (HO2.out.cellAt k (by omega)).trans (part_get p zs n k k (by omega))
      rw [if_neg (by omega)] at c2
      have c3 : wr.frozen? ⟨w.heap.size, k, none⟩ = false := HO2.out.frozenAt k
      have hkn : (k : Int) < (n : Nat) := by omega
      have hkl : (k : Int) < (zs.length : Nat) := by omega
      clear hst
      go_wp2
      go_roundw
      case rel => exact ⟨k + 1, by omega, by go_num, HS.out.1, HB2.out.setCell (by simp) _⟩
      case measure => simp [intOf]; omega
    · have hkU : k = n := by omega
      subst hkU
      have hN : Nums wr (.slice (some ⟨w.heap.size, 0, none⟩) k k) (drawn p zs k) := by
        have h := HO2.out
        rw [part_full p zs k _ (.inl (by omega))] at h
        exact nums_of_owns h (drawn_lt p zs k (by omega) (by omega)) (by simp [drawn]; omega)
      have HN := Lib.hid hN
      have hsz := HB2.out.size
      clear hN
      go_wp2_with (at_builtin; refine wpList_append_own _ rfl _ _ 24 rfl wr.heap.size 22 i0 (.int .u64 0) 1 8 Try.underlying24 hi0 hz0 hz1 hz2 rfl (by decide) _ _ _ rfl (World.ownsRow_made wr #[] 0 (Nat.le_refl _) (by decide) rfl) ⟨b, off + k, none⟩ (zs.length - k) (cap - k) (vals (zs.drop k)) rfl ?d0 ?d1 ?d2 ?d3 ?d4 ?d5 ?_)
      case d0 => simp [vals]
      case d1 =>
        intro j u hu
        have hj : j < zs.length - k := by
          apply Nat.lt_of_not_le; intro hc
          rw [List.getElem?_eq_none (by simp [vals]; omega)] at hu; cases hu
        have h := (HB2.out.cell (p := ⟨b, off + (k + j), none⟩) hb).trans (H1.out (k + j) (by omega))
        rw [Addr.add_lit]
        have hlt2 : b < wr.heap.size := Nat.lt_of_lt_of_le hb hsz
        rw [(Below.cell (Below.alloc (Below.refl wr.heap.size wr) (Nat.le_refl _) (.cells #[] 22)) (p := ⟨b, off + k + j, none⟩) hlt2), Nat.add_assoc, h]
        rw [← hu]
        simp [vals, List.getD_eq_getElem?_getD, show k + j < zs.length by omega]
      case d2 => intro u hu; unfold vals at hu; obtain ⟨z, _, rfl⟩ := List.mem_map.1 hu; rfl
      case d3 => unfold maxLen; omega
      case d4 => omega
      case d5 => simp
      intro v' w2 hown2 hgrow2 _
      have hB3 := ((Below.refl wr.heap.size wr).alloc (Nat.le_refl _) (.cells #[] 22)).grown hgrow2 (by simp) (fun k hk => by simp [Value.ownBlock] at hk; omega)
      have HB3 := Lib.hid hB3
      have hN2 : Nums w2 v' (zs.drop k) := by
        refine nums_of_owns (zs := zs.drop k) (n := zs.length - k) (base := wr.heap.size) ?_ (fun x hx => HZ.out x (List.mem_of_mem_drop hx)) (by rw [List.length_drop]; omega)
        have e : zs.drop k = ((zs.drop k)) := rfl
        simpa [e, vals] using hown2
      have HN2 := Lib.hid hN2
      clear hown2 hgrow2 hB3 hN2 hsz
      go_wp2
      go_ret2
      exact ⟨_, v', rfl, HN.out.below HB3.out, HN2.out, HB2.out.trans (Below.mono HB3.out HB2.out.size)⟩

set_option maxHeartbeats 1000000 in
theorem refDraw_b (p : Nat) (zs : List Nat) (b off : Nat) (w : World) (h3 : 3 ≤ p) (hp : p ≤ 65537) (hn : zs.length ≤ 65536) (hl : zs.length ≤ 17592186043904) (hb : b < w.heap.size) 
    (h1 : ∀ i, i < zs.length → w.cell? ⟨b, off + i, none⟩ = some (.int .u64 (zs.getD i 0))) (hz : ∀ n ∈ zs, n < 18446744073709551616) :
    Calls Try.prog 72 #[.int .u64 p, .slice (some ⟨b, off, none⟩) zs.length zs.length, .int .i64 zs.length] w (RefDrew w p zs zs.length) := by
  have H1 := Lib.hid h1
  have HZ := Lib.hid hz
  obtain ⟨i0, hi0, hz0, hz1, hz2⟩ := info_parts infoU64
  clear h1 hz
  go_enter Try.func72, Try.ntmps72
  go_wp2_with (refine wpList_make_full _ rfl _ _ 24 rfl w.heap.size 22 i0 (.int .u64 0) 1 Try.underlying24 hi0 hz0 hz1 .i64 .i64 _ _ zs.length rfl rfl rfl rfl ?c1 ?c2 ?c3 ?_)
  case c1 => rw [hz2]; omega
  case c2 => unfold maxLen; omega
  case c3 => exact Nat.le_refl _
  intro w1 hown hgrow
  rw [toList_madeCells_one, ← part_zero p zs zs.length] at hown
  have HB := Lib.hid ((Below.refl w.heap.size w).grown hgrow (Nat.le_refl _) (by simp))
  have HO := Lib.hid hown
  clear hown hgrow
  go_wp2
  go_loopw [9] (fun t wr => ∃ k : Nat, k ≤ zs.length ∧ t = .int .i64 k ∧ wr.ownsRow w.heap.size 22 1 (.slice (some ⟨w.heap.size, 0, none⟩) zs.length zs.length) zs.length (vals (part p zs zs.length k)) ∧ Below w.heap.size w wr) (fun t _ => zs.length - (intOf t).toNat)
  case atStart => exact ⟨0, by omega, rfl, HO.out, HB.out⟩
  case round =>
    obtain ⟨k, hk, rfl, hown, hbw⟩ := hrel
    have HB2 := Lib.hid hbw
    have HO2 := Lib.hid hown
    clear hown hbw
    by_cases hlt : k < zs.length
    · have c1 : wr.cell? ⟨b, off + k, none⟩ = some (.int .u64 (zs.getD k 0)) := (HB2.out.cell (p := ⟨b, off + k, none⟩) hb).trans (H1.out k (by omega))
      have hx64 : zs.getD k 0 < 18446744073709551616 := by
        rw [List.getD_eq_getElem?_getD, List.getElem?_eq_getElem (by omega)]
        exact HZ.out _ (List.getElem_mem (by omega))
      have hst := HO2.out.stored k (.int .u64 ((zs.getD k 0 % p : Nat) : Int))
      rw [part_set p zs zs.length k (by omega)] at hst
      obtain ⟨x, hx⟩ : ∃ x, x = zs.getD k 0 := ⟨_, rfl⟩
      rw [← hx] at c1 hx64 hst
      clear hx
      rw [Int.natCast_emod] at hst
      have HS := Lib.hid hst
      have c2 : wr.cell? ⟨w.heap.size, k, none⟩ = some (.int .u64 ((if k < k then zs.getD k 0 % p else 0 : Nat) : Int)) := (HO2.out.cellAt k (by omega)).trans (part_get p zs zs.length k k (by omega))
      rw [if_neg (by omega)] at c2
      have c3 : wr.frozen? ⟨w.heap.size, k, none⟩ = false := HO2.out.frozenAt k
      have hkn : (k : Int) < (zs.length : Nat) := by omega
      have hkl : (k : Int) < (zs.length : Nat) := by omega
      clear hst
      go_wp2
      go_roundw
      case rel => exact ⟨k + 1, by omega, by go_num, HS.out.1, HB2.out.setCell (by simp) _⟩
      case measure => simp [intOf]; omega
    · have hkU : k = zs.length := by omega
      subst hkU
      have hN : Nums wr (.slice (some ⟨w.heap.size, 0, none⟩) zs.length zs.length) (drawn p zs zs.length) := by
        have h := HO2.out
        rw [part_full p zs zs.length _ (.inl (by omega))] at h
        exact nums_of_owns h (drawn_lt p zs zs.length (by omega) (by omega)) (by simp [drawn]; omega)
      have HN := Lib.hid hN
      have hsz := HB2.out.size
      clear hN
      go_wp2_with (at_builtin; refine wpList_append_own _ rfl _ _ 24 rfl wr.heap.size 22 i0 (.int .u64 0) 1 8 Try.underlying24 hi0 hz0 hz1 hz2 rfl (by decide) _ _ _ rfl (World.ownsRow_made wr #[] 0 (Nat.le_refl _) (by decide) rfl) ⟨b, off, none⟩ (0) (0) ([]) rfl ?d0 ?d1 ?d2 ?d3 ?d4 ?d5 ?_)
      case d0 => rfl
      case d1 =>
        intro j u hu
        simp at hu
      case d2 => intro u hu; simp at hu
      case d3 => unfold maxLen; omega
      case d4 => omega
      case d5 => simp
      intro v' w2 hown2 hgrow2 _
      have hB3 := ((Below.refl wr.heap.size wr).alloc (Nat.le_refl _) (.cells #[] 22)).grown hgrow2 (by simp) (fun k hk => by simp [Value.ownBlock] at hk; omega)
      have HB3 := Lib.hid hB3
      have hN2 : Nums w2 v' (zs.drop zs.length) := by
        refine nums_of_owns (zs := zs.drop zs.length) (n := 0) (base := wr.heap.size) ?_ (fun x hx => HZ.out x (List.mem_of_mem_drop hx)) (by rw [List.length_drop]; omega)
        have e : zs.drop zs.length = ([]) := List.drop_eq_nil_of_le (by omega)
        simpa [e] using hown2
      have HN2 := Lib.hid hN2
      clear hown2 hgrow2 hB3 hN2 hsz
      go_wp2
      go_ret2
      exact ⟨_, v', rfl, HN.out.below HB3.out, HN2.out, HB2.out.trans (Below.mono HB3.out HB2.out.size)⟩

set_option maxHeartbeats 1000000 in
theorem refDraw_c (p n cap : Nat) (zs : List Nat) (b off : Nat) (w : World) (h3 : 3 ≤ p) (hp : p ≤ 65537) (hn : n ≤ 65536) (hl : zs.length ≤ 17592186043904) (hb : b < w.heap.size) (hnl : zs.length < n) (hcl : zs.length < cap)
    (h1 : ∀ i, i < zs.length → w.cell? ⟨b, off + i, none⟩ = some (.int .u64 (zs.getD i 0))) (hz : ∀ n ∈ zs, n < 18446744073709551616) :
    Calls Try.prog 72 #[.int .u64 p, .slice (some ⟨b, off, none⟩) zs.length cap, .int .i64 n] w (RefDrew w p zs n) := by
  have H1 := Lib.hid h1
  have HZ := Lib.hid hz
  obtain ⟨i0, hi0, hz0, hz1, hz2⟩ := info_parts infoU64
  clear h1 hz
  go_enter Try.func72, Try.ntmps72
  go_wp2_with (refine wpList_make_full _ rfl _ _ 24 rfl w.heap.size 22 i0 (.int .u64 0) 1 Try.underlying24 hi0 hz0 hz1 .i64 .i64 _ _ n rfl rfl rfl rfl ?c1 ?c2 ?c3 ?_)
  case c1 => rw [hz2]; omega
  case c2 => unfold maxLen; omega
  case c3 => exact Nat.le_refl _
  intro w1 hown hgrow
  rw [toList_madeCells_one, ← part_zero p zs n] at hown
  have HB := Lib.hid ((Below.refl w.heap.size w).grown hgrow (Nat.le_refl _) (by simp))
  have HO := Lib.hid hown
  clear hown hgrow
  go_wp2
  go_loopw [9] (fun t wr => ∃ k : Nat, k ≤ zs.length ∧ t = .int .i64 k ∧ wr.ownsRow w.heap.size 22 1 (.slice (some ⟨w.heap.size, 0, none⟩) n n) n (vals (part p zs n k)) ∧ Below w.heap.size w wr) (fun t _ => zs.length - (intOf t).toNat)
  case atStart => exact ⟨0, by omega, rfl, HO.out, HB.out⟩
  case round =>
    obtain ⟨k, hk, rfl, hown, hbw⟩ := hrel
    have HB2 := Lib.hid hbw
    have HO2 := Lib.hid hown
    clear hown hbw
    by_cases hlt : k < zs.length
    · have c1 : wr.cell? ⟨b, off + k, none⟩ = some (.int .u64 (zs.getD k 0)) := (HB2.out.cell (p := ⟨b, off + k, none⟩) hb).trans (H1.out k (by omega))
      have hx64 : zs.getD k 0 < 18446744073709551616 := by
        rw [List.getD_eq_getElem?_getD, List.getElem?_eq_getElem (by omega)]
        exact HZ.out _ (List.getElem_mem (by omega))
      have hst := HO2.out.stored k (.int .u64 ((zs.getD k 0 % p : Nat) : Int))
      rw [part_set p zs n k (by omega)] at hst
      obtain ⟨x, hx⟩ : ∃ x, x = zs.getD k 0 := ⟨_, rfl⟩
      rw [← hx] at c1 hx64 hst
      clear hx
      rw [Int.natCast_emod] at hst
      have HS := Lib.hid hst
      have c2 : wr.cell? ⟨w.heap.size, k, none⟩ = some (.int .u64 ((if k < k then zs.getD k 0 % p else 0 : Nat) : Int)) := (HO2.out.cellAt k (by omega)).trans (part_get p zs n k k (by omega))
      rw [if_neg (by omega)] at c2
      have c3 : wr.frozen? ⟨w.heap.size, k, none⟩ = false := HO2.out.frozenAt k
      have hkn : (k : Int) < (n : Nat) := by omega
      have hkl : (k : Int) < (zs.length : Nat) := by omega
      clear hst
      go_wp2
      go_roundw
      case rel => exact ⟨k + 1, by omega, by go_num, HS.out.1, HB2.out.setCell (by simp) _⟩
      case measure => simp [intOf]; omega
    · have hkU : k = zs.length := by omega
      subst hkU
      have hN : Nums wr (.slice (some ⟨w.heap.size, 0, none⟩) n n) (drawn p zs n) := by
        have h := HO2.out
        rw [part_full p zs n _ (.inr (by omega))] at h
        exact nums_of_owns h (drawn_lt p zs n (by omega) (by omega)) (by simp [drawn]; omega)
      have HN := Lib.hid hN
      have hsz := HB2.out.size
      clear hN
      go_wp2_with (at_builtin; refine wpList_append_own _ rfl _ _ 24 rfl wr.heap.size 22 i0 (.int .u64 0) 1 8 Try.underlying24 hi0 hz0 hz1 hz2 rfl (by decide) _ _ _ rfl (World.ownsRow_made wr #[] 0 (Nat.le_refl _) (by decide) rfl) ⟨b, off + zs.length, none⟩ (0) (cap - zs.length) ([]) rfl ?d0 ?d1 ?d2 ?d3 ?d4 ?d5 ?_)
      case d0 => rfl
      case d1 =>
        intro j u hu
        simp at hu
      case d2 => intro u hu; simp at hu
      case d3 => unfold maxLen; omega
      case d4 => omega
      case d5 => simp
      intro v' w2 hown2 hgrow2 _
      have hB3 := ((Below.refl wr.heap.size wr).alloc (Nat.le_refl _) (.cells #[] 22)).grown hgrow2 (by simp) (fun k hk => by simp [Value.ownBlock] at hk; omega)
      have HB3 := Lib.hid hB3
      have hN2 : Nums w2 v' (zs.drop n) := by
        refine nums_of_owns (zs := zs.drop n) (n := 0) (base := wr.heap.size) ?_ (fun x hx => HZ.out x (List.mem_of_mem_drop hx)) (by rw [List.length_drop]; omega)
        have e : zs.drop n = ([]) := List.drop_eq_nil_of_le (by omega)
        simpa [e] using hown2
      have HN2 := Lib.hid hN2
      clear hown2 hgrow2 hB3 hN2 hsz
      go_wp2
      go_ret2
      exact ⟨_, v', rfl, HN.out.below HB3.out, HN2.out, HB2.out.trans (Below.mono HB3.out HB2.out.size)⟩

set_option maxHeartbeats 1000000 in
theorem refDraw_d (p n : Nat) (zs : List Nat) (b off : Nat) (w : World) (h3 : 3 ≤ p) (hp : p ≤ 65537) (hn : n ≤ 65536) (hl : zs.length ≤ 17592186043904) (hb : b < w.heap.size) (hnl : zs.length < n)
    (h1 : ∀ i, i < zs.length → w.cell? ⟨b, off + i, none⟩ = some (.int .u64 (zs.getD i 0))) (hz : ∀ n ∈ zs, n < 18446744073709551616) :
    Calls Try.prog 72 #[.int .u64 p, .slice (some ⟨b, off, none⟩) zs.length zs.length, .int .i64 n] w (RefDrew w p zs n) := by
  have H1 := Lib.hid h1
  have HZ := Lib.hid hz
  obtain ⟨i0, hi0, hz0, hz1, hz2⟩ := info_parts infoU64
  clear h1 hz
  go_enter Try.func72, Try.ntmps72
  go_wp2_with (refine wpList_make_full _ rfl _ _ 24 rfl w.heap.size 22 i0 (.int .u64 0) 1 Try.underlying24 hi0 hz0 hz1 .i64 .i64 _ _ n rfl rfl rfl rfl ?c1 ?c2 ?c3 ?_)
  case c1 => rw [hz2]; omega
  case c2 => unfold maxLen; omega
  case c3 => exact Nat.le_refl _
  intro w1 hown hgrow
  rw [toList_madeCells_one, ← part_zero p zs n] at hown
  have HB := Lib.hid ((Below.refl w.heap.size w).grown hgrow (Nat.le_refl _) (by simp))
  have HO := Lib.hid hown
  clear hown hgrow
  go_wp2
  go_loopw [9] (fun t wr => ∃ k : Nat, k ≤ zs.length ∧ t = .int .i64 k ∧ wr.ownsRow w.heap.size 22 1 (.slice (some ⟨w.heap.size, 0, none⟩) n n) n (vals (part p zs n k)) ∧ Below w.heap.size w wr) (fun t _ => zs.length - (intOf t).toNat)
  case atStart => exact ⟨0, by omega, rfl, HO.out, HB.out⟩
  case round =>
    obtain ⟨k, hk, rfl, hown, hbw⟩ := hrel
    have HB2 := Lib.hid hbw
    have HO2 := Lib.hid hown
    clear hown hbw
    by_cases hlt : k < zs.length
    · have c1 : wr.cell? ⟨b, off + k, none⟩ = some (.int .u64 (zs.getD k 0)) := (HB2.out.cell (p := ⟨b, off + k, none⟩) hb).trans (H1.out k (by omega))
      have hx64 : zs.getD k 0 < 18446744073709551616 := by
        rw [List.getD_eq_getElem?_getD, List.getElem?_eq_getElem (by omega)]
        exact HZ.out _ (List.getElem_mem (by omega))
      have hst := HO2.out.stored k (.int .u64 ((zs.getD k 0 % p : Nat) : Int))
      rw [part_set p zs n k (by omega)] at hst
      obtain ⟨x, hx⟩ : ∃ x, x = zs.getD k 0 := ⟨_, rfl⟩
      rw [← hx] at c1 hx64 hst
      clear hx
      rw [Int.natCast_emod] at hst
      have HS := Lib.hid hst
      have c2 : wr.cell? ⟨w.heap.size, k, none⟩ = some (.int .u64 ((if k < k then zs.getD k 0 % p else 0 : Nat) : Int)) := (HO2.out.cellAt k (by omega)).trans (part_get p zs n k k (by omega))
      rw [if_neg (by omega)] at c2
      have c3 : wr.frozen? ⟨w.heap.size, k, none⟩ = false := HO2.out.frozenAt k
      have hkn : (k : Int) < (n : Nat) := by omega
      have hkl : (k : Int) < (zs.length : Nat) := by omega
      clear hst
      go_wp2
      go_roundw
      case rel => exact ⟨k + 1, by omega, by go_num, HS.out.1, HB2.out.setCell (by simp) _⟩
      case measure => simp [intOf]; omega
    · have hkU : k = zs.length := by omega
      subst hkU
      have hN : Nums wr (.slice (some ⟨w.heap.size, 0, none⟩) n n) (drawn p zs n) := by
        have h := HO2.out
        rw [part_full p zs n _ (.inr (by omega))] at h
        exact nums_of_owns h (drawn_lt p zs n (by omega) (by omega)) (by simp [drawn]; omega)
      have HN := Lib.hid hN
      have hsz := HB2.out.size
      clear hN
      go_wp2_with (at_builtin; refine wpList_append_own _ rfl _ _ 24 rfl wr.heap.size 22 i0 (.int .u64 0) 1 8 Try.underlying24 hi0 hz0 hz1 hz2 rfl (by decide) _ _ _ rfl (World.ownsRow_made wr #[] 0 (Nat.le_refl _) (by decide) rfl) ⟨b, off, none⟩ (0) (0) ([]) rfl ?d0 ?d1 ?d2 ?d3 ?d4 ?d5 ?_)
      case d0 => rfl
      case d1 =>
        intro j u hu
        simp at hu
      case d2 => intro u hu; simp at hu
      case d3 => unfold maxLen; omega
      case d4 => omega
      case d5 => simp
      intro v' w2 hown2 hgrow2 _
      have hB3 := ((Below.refl wr.heap.size wr).alloc (Nat.le_refl _) (.cells #[] 22)).grown hgrow2 (by simp) (fun k hk => by simp [Value.ownBlock] at hk; omega)
      have HB3 := Lib.hid hB3
      have hN2 : Nums w2 v' (zs.drop n) := by
        refine nums_of_owns (zs := zs.drop n) (n := 0) (base := wr.heap.size) ?_ (fun x hx => HZ.out x (List.mem_of_mem_drop hx)) (by rw [List.length_drop]; omega)
        have e : zs.drop n = ([]) := List.drop_eq_nil_of_le (by omega)
        simpa [e] using hown2
      have HN2 := Lib.hid hN2
      clear hown2 hgrow2 hB3 hN2 hsz
      go_wp2
      go_ret2
      exact ⟨_, v', rfl, HN.out.below HB3.out, HN2.out, HB2.out.trans (Below.mono HB3.out HB2.out.size)⟩

set_option maxHeartbeats 1000000 in
theorem refDraw_es (p n : Nat) (x : Addr) (cap : Nat) (w : World) (h3 : 3 ≤ p) (hp : p ≤ 65537) (hn : n ≤ 65536) (h0 : 0 < n):
    Calls Try.prog 72 #[.int .u64 p, .slice (some x) 0 cap, .int .i64 n] w (RefDrew w p [] n) := by
  obtain ⟨i0, hi0, hz0, hz1, hz2⟩ := info_parts infoU64
  go_enter Try.func72, Try.ntmps72
  go_wp2_with (refine wpList_make_full _ rfl _ _ 24 rfl w.heap.size 22 i0 (.int .u64 0) 1 Try.underlying24 hi0 hz0 hz1 .i64 .i64 _ _ n rfl rfl rfl rfl ?c1 ?c2 ?c3 ?_)
  case c1 => rw [hz2]; omega
  case c2 => unfold maxLen; omega
  case c3 => exact Nat.le_refl _
  intro w1 hown hgrow
  rw [toList_madeCells_one, ← part_zero p [] n] at hown
  have HB := Lib.hid ((Below.refl w.heap.size w).grown hgrow (Nat.le_refl _) (by simp))
  have HO := Lib.hid hown
  clear hown hgrow
  go_wp2
  go_loopw [9] (fun t wr => t = .int .i64 0 ∧ wr.ownsRow w.heap.size 22 1 (.slice (some ⟨w.heap.size, 0, none⟩) n n) n (vals (part p [] n 0)) ∧ Below w.heap.size w wr) (fun _ _ => 0)
  case atStart => exact ⟨rfl, HO.out, HB.out⟩
  case round =>
    obtain ⟨rfl, hown, hbw⟩ := hrel
    have HB2 := Lib.hid hbw
    have hN : Nums wr (.slice (some ⟨w.heap.size, 0, none⟩) n n) (drawn p [] n) := by
      rw [part_full p [] n _ (.inr (by simp))] at hown
      exact nums_of_owns hown (drawn_lt p [] n (by omega) (by omega)) (by simp [drawn]; try omega)
    have HN := Lib.hid hN
    clear hN hown hbw
    go_wp2_with (at_builtin; refine wpList_append_own _ rfl _ _ 24 rfl wr.heap.size 22 i0 (.int .u64 0) 1 8 Try.underlying24 hi0 hz0 hz1 hz2 rfl (by decide) _ _ _ rfl (World.ownsRow_made wr #[] 0 (Nat.le_refl _) (by decide) rfl) _ 0 _ [] rfl rfl (by intro j u hu; simp at hu) (by intro u hu; simp at hu) (by unfold maxLen; omega) (by omega) ?d5 ?_)
    case d5 => simp
    intro v' w2 hown2 hgrow2 _
    have hB3 := ((Below.refl wr.heap.size wr).alloc (Nat.le_refl _) (.cells #[] 22)).grown hgrow2 (by simp) (fun k hk => by simp [Value.ownBlock] at hk; omega)
    have HB3 := Lib.hid hB3
    have hN2 : Nums w2 v' [] := nums_of_owns (zs := []) (n := 0) (base := wr.heap.size) (by simpa using hown2) (by simp) (by simp)
    have HN2 := Lib.hid hN2
    clear hown2 hgrow2 hB3 hN2
    go_wp2
    go_ret2
    exact ⟨_, v', rfl, HN.out.below HB3.out, by rw [List.drop_nil]; exact HN2.out, HB2.out.trans (Below.mono HB3.out HB2.out.size)⟩

set_option maxHeartbeats 1000000 in
theorem refDraw_en (p n : Nat) (w : World) (h3 : 3 ≤ p) (hp : p ≤ 65537) (hn : n ≤ 65536) (h0 : 0 < n):
    Calls Try.prog 72 #[.int .u64 p, .slice none 0 0, .int .i64 n] w (RefDrew w p [] n) := by
  obtain ⟨i0, hi0, hz0, hz1, hz2⟩ := info_parts infoU64
  go_enter Try.func72, Try.ntmps72
  go_wp2_with (refine wpList_make_full _ rfl _ _ 24 rfl w.heap.size 22 i0 (.int .u64 0) 1 Try.underlying24 hi0 hz0 hz1 .i64 .i64 _ _ n rfl rfl rfl rfl ?c1 ?c2 ?c3 ?_)
  case c1 => rw [hz2]; omega
  case c2 => unfold maxLen; omega
  case c3 => exact Nat.le_refl _
  intro w1 hown hgrow
  rw [toList_madeCells_one, ← part_zero p [] n] at hown
  have HB := Lib.hid ((Below.refl w.heap.size w).grown hgrow (Nat.le_refl _) (by simp))
  have HO := Lib.hid hown
  clear hown hgrow
  go_wp2
  go_loopw [9] (fun t wr => t = .int .i64 0 ∧ wr.ownsRow w.heap.size 22 1 (.slice (some ⟨w.heap.size, 0, none⟩) n n) n (vals (part p [] n 0)) ∧ Below w.heap.size w wr) (fun _ _ => 0)
  case atStart => exact ⟨rfl, HO.out, HB.out⟩
  case round =>
    obtain ⟨rfl, hown, hbw⟩ := hrel
    have HB2 := Lib.hid hbw
    have hN : Nums wr (.slice (some ⟨w.heap.size, 0, none⟩) n n) (drawn p [] n) := by
      rw [part_full p [] n _ (.inr (by simp))] at hown
      exact nums_of_owns hown (drawn_lt p [] n (by omega) (by omega)) (by simp [drawn]; try omega)
    have HN := Lib.hid hN
    clear hN hown hbw
    go_wp2_with (at_builtin; refine wpList_append_own_none rfl _ _ 24 rfl wr.heap.size 22 i0 1 Try.underlying24 hi0 _ _ _ rfl (World.ownsRow_made wr #[] 0 (Nat.le_refl _) (by decide) rfl) rfl ?_)
    have hN2 : Nums (wr.alloc (.cells #[] 22)) (.slice (some ⟨wr.heap.size, 0, none⟩) 0 0) [] := ⟨by simp, by simp, .inl ⟨_, _, rfl, rfl, by simp⟩⟩
    have HN2 := Lib.hid hN2
    clear hN2
    go_wp2
    go_ret2
    exact ⟨_, _, rfl, HN.out.below ((Below.refl _ _).alloc (Nat.le_refl _) _), by rw [List.drop_nil]; exact HN2.out, HB2.out.alloc HB2.out.size _⟩

set_option maxHeartbeats 1000000 in
theorem refDraw_fs (p : Nat) (x : Addr) (cap : Nat) (w : World) (h3 : 3 ≤ p) (hp : p ≤ 65537) :
    Calls Try.prog 72 #[.int .u64 p, .slice (some x) 0 cap, .int .i64 0] w (RefDrew w p [] 0) := by
  obtain ⟨i0, hi0, hz0, hz1, hz2⟩ := info_parts infoU64
  go_enter Try.func72, Try.ntmps72
  go_wp2_with (refine wpList_make_full _ rfl _ _ 24 rfl w.heap.size 22 i0 (.int .u64 0) 1 Try.underlying24 hi0 hz0 hz1 .i64 .i64 _ _ 0 rfl rfl rfl rfl ?c1 ?c2 ?c3 ?_)
  case c1 => rw [hz2]; omega
  case c2 => unfold maxLen; omega
  case c3 => exact Nat.le_refl _
  intro w1 hown hgrow
  rw [toList_madeCells_one, ← part_zero p [] 0] at hown
  have HB := Lib.hid ((Below.refl w.heap.size w).grown hgrow (Nat.le_refl _) (by simp))
  have HO := Lib.hid hown
  clear hown hgrow
  go_wp2
  go_loopw [9] (fun t wr => t = .int .i64 0 ∧ wr.ownsRow w.heap.size 22 1 (.slice (some ⟨w.heap.size, 0, none⟩) 0 0) 0 (vals (part p [] 0 0)) ∧ Below w.heap.size w wr) (fun _ _ => 0)
  case atStart => exact ⟨rfl, HO.out, HB.out⟩
  case round =>
    obtain ⟨rfl, hown, hbw⟩ := hrel
    have HB2 := Lib.hid hbw
    have hN : Nums wr (.slice (some ⟨w.heap.size, 0, none⟩) 0 0) (drawn p [] 0) := by
      rw [part_full p [] 0 _ (.inr (by simp))] at hown
      exact nums_of_owns hown (drawn_lt p [] 0 (by omega) (by omega)) (by simp [drawn]; try omega)
    have HN := Lib.hid hN
    clear hN hown hbw
    go_wp2_with (at_builtin; refine wpList_append_own _ rfl _ _ 24 rfl wr.heap.size 22 i0 (.int .u64 0) 1 8 Try.underlying24 hi0 hz0 hz1 hz2 rfl (by decide) _ _ _ rfl (World.ownsRow_made wr #[] 0 (Nat.le_refl _) (by decide) rfl) _ 0 _ [] rfl rfl (by intro j u hu; simp at hu) (by intro u hu; simp at hu) (by unfold maxLen; omega) (by omega) ?d5 ?_)
    case d5 => simp
    intro v' w2 hown2 hgrow2 _
    have hB3 := ((Below.refl wr.heap.size wr).alloc (Nat.le_refl _) (.cells #[] 22)).grown hgrow2 (by simp) (fun k hk => by simp [Value.ownBlock] at hk; omega)
    have HB3 := Lib.hid hB3
    have hN2 : Nums w2 v' [] := nums_of_owns (zs := []) (n := 0) (base := wr.heap.size) (by simpa using hown2) (by simp) (by simp)
    have HN2 := Lib.hid hN2
    clear hown2 hgrow2 hB3 hN2
    go_wp2
    go_ret2
    exact ⟨_, v', rfl, HN.out.below HB3.out, by rw [List.drop_nil]; exact HN2.out, HB2.out.trans (Below.mono HB3.out HB2.out.size)⟩

set_option maxHeartbeats 1000000 in
theorem refDraw_fn (p : Nat) (w : World) (h3 : 3 ≤ p) (hp : p ≤ 65537) :
    Calls Try.prog 72 #[.int .u64 p, .slice none 0 0, .int .i64 0] w (RefDrew w p [] 0) := by
  obtain ⟨i0, hi0, hz0, hz1, hz2⟩ := info_parts infoU64
  go_enter Try.func72, Try.ntmps72
  go_wp2_with (refine wpList_make_full _ rfl _ _ 24 rfl w.heap.size 22 i0 (.int .u64 0) 1 Try.underlying24 hi0 hz0 hz1 .i64 .i64 _ _ 0 rfl rfl rfl rfl ?c1 ?c2 ?c3 ?_)
  case c1 => rw [hz2]; omega
  case c2 => unfold maxLen; omega
  case c3 => exact Nat.le_refl _
  intro w1 hown hgrow
  rw [toList_madeCells_one, ← part_zero p [] 0] at hown
  have HB := Lib.hid ((Below.refl w.heap.size w).grown hgrow (Nat.le_refl _) (by simp))
  have HO := Lib.hid hown
  clear hown hgrow
  go_wp2
  go_loopw [9] (fun t wr => t = .int .i64 0 ∧ wr.ownsRow w.heap.size 22 1 (.slice (some ⟨w.heap.size, 0, none⟩) 0 0) 0 (vals (part p [] 0 0)) ∧ Below w.heap.size w wr) (fun _ _ => 0)
  case atStart => exact ⟨rfl, HO.out, HB.out⟩
  case round =>
    obtain ⟨rfl, hown, hbw⟩ := hrel
    have HB2 := Lib.hid hbw
    have hN : Nums wr (.slice (some ⟨w.heap.size, 0, none⟩) 0 0) (drawn p [] 0) := by
      rw [part_full p [] 0 _ (.inr (by simp))] at hown
      exact nums_of_owns hown (drawn_lt p [] 0 (by omega) (by omega)) (by simp [drawn]; try omega)
    have HN := Lib.hid hN
    clear hN hown hbw
    go_wp2_with (at_builtin; refine wpList_append_own_none rfl _ _ 24 rfl wr.heap.size 22 i0 1 Try.underlying24 hi0 _ _ _ rfl (World.ownsRow_made wr #[] 0 (Nat.le_refl _) (by decide) rfl) rfl ?_)
    have hN2 : Nums (wr.alloc (.cells #[] 22)) (.slice (some ⟨wr.heap.size, 0, none⟩) 0 0) [] := ⟨by simp, by simp, .inl ⟨_, _, rfl, rfl, by simp⟩⟩
    have HN2 := Lib.hid hN2
    clear hN2
    go_wp2
    go_ret2
    exact ⟨_, _, rfl, HN.out.below ((Below.refl _ _).alloc (Nat.le_refl _) _), by rw [List.drop_nil]; exact HN2.out, HB2.out.alloc HB2.out.size _⟩

theorem refDraw_any (p n : Nat) (v : Value) (zs : List Nat) (w : World) (h3 : 3 ≤ p) (hp : p ≤ 65537) (hn : n ≤ 65536) (hv : Nums w v zs) :
    Calls Try.prog 72 #[.int .u64 p, v, .int .i64 n] w (RefDrew w p zs n) := by
  obtain ⟨h1, h2, h3'⟩ := hv
  rcases h3' with ⟨a, cap, rfl, rfl, hnn⟩ | ⟨b, off, cap, rfl, hc, hb, hcell⟩
  · cases a with
    | none =>
      obtain rfl := hnn rfl
      by_cases h0 : n = 0
      · subst h0; exact refDraw_fn p w h3 hp
      · exact refDraw_en p n w h3 hp hn (by omega)
    | some x =>
      by_cases h0 : n = 0
      · subst h0; exact refDraw_fs p x cap w h3 hp
      · exact refDraw_es p n x cap w h3 hp hn (by omega)
  · by_cases hle : n ≤ zs.length
    · by_cases hcn : n < cap
      · exact refDraw_a p n cap zs b off w h3 hp hn h2 hb hle hc hcn hcell h1
      · obtain rfl : n = zs.length := by omega
        obtain rfl : cap = zs.length := by omega
        exact refDraw_b p zs b off w h3 hp hn h2 hb hcell h1
    · by_cases hcl : zs.length < cap
      · exact refDraw_c p n cap zs b off w h3 hp hn h2 hb (by omega) hcl hcell h1
      · obtain rfl : cap = zs.length := by omega
        exact refDraw_d p n zs b off w h3 hp hn h2 hb (by omega) hcell h1
end Go.Proofs.Ytgoognipljknjaa
namespace Go.Proofs.Ytgoognipljknjaa
open Go.RowKit
set_option linter.unusedVariables false
set_option maxRecDepth 100000

set_option maxHeartbeats 400000 in
theorem is_good (v v2 : Value) (zs : List Nat) (w : World) (h : Nums w v zs) (h2 : Nums w v2 zs) :
    Calls Try.prog 32 #[v, .int .i64 0, v2, .int .i64 0] w fun e w' => e = .returned (.bool true) ∧ Below w.heap.size w w' := by
  have HS := Lib.hid (same_any v v2 zs w h h2)
  clear h h2
  go_enter Try.func32, Try.ntmps32
  go_wp2_with fail
  refine HS.out.mono ?_
  rintro e w1 ⟨rfl, hb⟩
  have HB := Lib.hid hb
  clear hb
  go_wp2_with fail
  go_ret
  exact ⟨rfl, HB.out⟩
set_option maxHeartbeats 400000 in
theorem is_bad (c : Int) (v2 : Value) (w : World) (hc : c ≠ 0) :
    Calls Try.prog 32 #[.slice none 0 0, .int .i64 c, v2, .int .i64 c] w fun e w' => e = .returned (.bool true) ∧ w = w' := by
  have h1 : (c != 0) = true := by rw [bne_iff_ne]; exact hc
  have h2 : (c == c) = true := by simp
  clear hc
  go_enter Try.func32, Try.ntmps32
  go_wp2_with fail
  go_ret
  exact ⟨rfl, rfl⟩

theorem own1 (w : World) (u : Value) (ty : TypeId) : (w.alloc (.cells #[u] ty)).ownsRow w.heap.size ty 1 (.slice (some ⟨w.heap.size, 0, none⟩) 1 1) 1 [u] :=
  ⟨rfl, .inr ⟨w.heap.size, 1, #[u], rfl, Nat.le_refl _, heap_alloc_new w _, Nat.le_refl _, by unfold maxLen; omega, rfl, rfl⟩⟩

set_option maxHeartbeats 2000000 in
theorem rmake_any (p a d : Nat) (n t : Int) (v : Value) (zs : List Nat) (w : World) (hi : M.isP p = true) (ha : a < p) (hd : d ≤ 1000) (hv : Nums w v zs) :
    Calls Try.prog 33 #[suV p n t, .int .u64 a, .int .i64 d, v] w fun e w' => ∃ v1 v2, e = .returned (.tuple #[v1, v2]) ∧ Nums w' v1 (M.mk p a d zs) ∧ Nums w' v2 (zs.drop d) ∧ Below w.heap.size w w' := by
  obtain ⟨h3, hp⟩ := M.pos_of hi
  have HB := Lib.hid (balloc w (Obj.cells #[Value.int IntKind.u64 p, Value.int IntKind.i64 n, Value.int IntKind.i64 t] 40))
  have HD := Lib.hid fun W (hW : Nums W v zs) => refDraw_any p d v zs W h3 hp (by omega) hW
  have HV := Lib.hid hv
  have HWI := Lib.hid (M.mkL_within ha zs d)
  obtain ⟨A, cap, rfl⟩ := nums_slice' hv
  unfold suV
  clear hv hi
  go_enter Try.func33, Try.ntmps33
  go_wp2_with fail
  refine (HD.out _ (HV.out.below HB.out)).mono ?_
  rintro e w2 ⟨v1, v2, rfl, hn1', hn2', hb2⟩
  have B2 := Lib.hid (bnext HB.out hb2)
  have N1 := Lib.hid hn1'
  have N2 := Lib.hid hn2'
  clear hn1' hn2' hb2
  go_wp2_with (at_builtin; refine wpList_append_nums (by rfl) _ _ (by rfl) w2.heap.size _ 1 _ (by rfl) (own1 w2 _ _) _ (drawn p zs d) (by rfl) (N1.out.below (balloc w2 _)) (by rw [M.drawn_len]; omega) (by simp) ?_)
  intro v' w' hown' hb'
  have hN : Nums w' v' (a :: drawn p zs d) := nums_of_owns (n := 1 + (drawn p zs d).length) (zs := a :: drawn p zs d) hown' (fun x hx => by have := HWI.out; have h := List.all_eq_true.1 this x hx; simp at h; omega) (by simp [M.drawn_len]; omega)
  have HT := Lib.hid (rtrim_any _ _ w' hN)
  have B3 := Lib.hid (bnext B2.out ((balloc w2 (.cells #[.int .u64 (a : Nat)] 22)).trans hb'))
  have R3 := Lib.hid (N2.out.below ((balloc w2 (.cells #[.int .u64 (a : Nat)] 22)).trans hb'))
  obtain ⟨A3, cap3, rfl⟩ := nums_slice' hN
  clear hown' hb' hN
  go_wp2_with fail
  refine HT.out.mono ?_
  rintro e w4 ⟨v4, rfl, hn4, hb4⟩
  have B4 := Lib.hid (bnext B3.out hb4)
  have N4 := Lib.hid hn4
  have R4 := Lib.hid (R3.out.below hb4)
  clear hn4 hb4
  go_wp2_with fail
  go_ret2
  exact ⟨_, _, rfl, N4.out, R4.out, B4.out⟩
end Go.Proofs.Ytgoognipljknjaa
namespace Go.Proofs.Ytgoognipljknjaa
open Go.RowKit
set_option linter.unusedVariables false

/-- cells that stand as told -/
def Kept (L : List (Addr × Value)) (W : World) : Prop := ∀ x ∈ L, x.1.block < W.heap.size ∧ W.cell? x.1 = some x.2
theorem Kept.below {L : List (Addr × Value)} {W W' : World} (h : Kept L W) (hb : Below W.heap.size W W') : Kept L W' := fun x hx =>
  ⟨Nat.lt_of_lt_of_le (h x hx).1 hb.size, (hb.cell (h x hx).1).trans (h x hx).2⟩
theorem Kept.drew {L : List (Addr × Value)} {W : World} (h : Kept L W) : Kept L W.drew := h
theorem Kept.app {L M : List (Addr × Value)} {W : World} (h : Kept L W) (h2 : Kept M W) : Kept (L ++ M) W := fun x hx => (List.mem_append.1 hx).elim (h x) (h2 x)
theorem Kept.alloc {L : List (Addr × Value)} {W : World} (h : Kept L W) (o : Obj) : Kept L (W.alloc o) := h.below (balloc W o)
theorem kept3 (w : World) (m : Nat) (hm : m = w.heap.size) (x y z : Value) (ty : TypeId) : Kept [(⟨m, 0, none⟩, x), (⟨m, 1, none⟩, y), (⟨m, 2, none⟩, z)] (w.alloc (.cells #[x, y, z] ty)) := by
  subst hm
  intro q hq
  simp at hq
  rcases hq with rfl | rfl | rfl <;> simp
theorem kept2 (w : World) (m : Nat) (hm : m = w.heap.size) (x y : Value) (ty : TypeId) : Kept [(⟨m, 0, none⟩, x), (⟨m, 1, none⟩, y)] (w.alloc (.cells #[x, y] ty)) := by
  subst hm
  intro q hq
  simp at hq
  rcases hq with rfl | rfl <;> simp
theorem Kept.of {L : List (Addr × Value)} {W : World} (h : Kept L W) {a : Addr} {v : Value} (hm : (a, v) ∈ L) : W.cell? a = some v := (h _ hm).2
theorem Kept.c3 {a b c : Addr} {x y z : Value} {L : List (Addr × Value)} {W : World} (h : Kept ((a, x) :: (b, y) :: (c, z) :: L) W) : W.cell? a = some x ∧ W.cell? b = some y ∧ W.cell? c = some z :=
  ⟨h.of (by simp), h.of (by simp), h.of (by simp)⟩
theorem Kept.tail {a : Addr × Value} {L : List (Addr × Value)} {W : World} (h : Kept (a :: L) W) : Kept L W := fun x hx => h x (List.mem_cons_of_mem _ hx)
theorem Kept.c6 {a b c d e f : Addr} {x y z u v t : Value} {L : List (Addr × Value)} {W : World} (h : Kept ((a, x) :: (b, y) :: (c, z) :: (d, u) :: (e, v) :: (f, t) :: L) W) :
    W.cell? a = some x ∧ W.cell? b = some y ∧ W.cell? c = some z ∧ W.cell? d = some u ∧ W.cell? e = some v ∧ W.cell? f = some t :=
  ⟨h.c3.1, h.c3.2.1, h.c3.2.2, h.tail.tail.tail.c3.1, h.tail.tail.tail.c3.2.1, h.tail.tail.tail.c3.2.2⟩
theorem Kept.c5 {a b c d e : Addr} {x y z u v : Value} {L : List (Addr × Value)} {W : World} (h : Kept ((a, x) :: (b, y) :: (c, z) :: (d, u) :: (e, v) :: L) W) :
    W.cell? a = some x ∧ W.cell? b = some y ∧ W.cell? c = some z ∧ W.cell? d = some u ∧ W.cell? e = some v :=
  ⟨h.c3.1, h.c3.2.1, h.c3.2.2, h.tail.tail.tail.of (by simp), h.tail.tail.tail.of (by simp)⟩

theorem nums_cell {w : World} {A : Option Addr} {n cap : Nat} {zs : List Nat} (h : Nums w (.slice A n cap) zs) {i : Nat} (hi : i < zs.length) :
    ∃ b off, A = some ⟨b, off, none⟩ ∧ b < w.heap.size ∧ w.cell? ⟨b, off + i, none⟩ = some (.int .u64 (zs.getD i 0 : Nat)) := by
  obtain ⟨A', cap', e, _, _, hc⟩ := nums_view h
  simp only [Value.slice.injEq] at e
  obtain ⟨rfl, rfl, rfl⟩ := e
  obtain ⟨b, off, rfl, hb, hcell⟩ := hc (by omega)
  exact ⟨b, off, rfl, hb, hcell i hi⟩
theorem intsZ_cell {w : World} {A : Option Addr} {n cap : Nat} {l : List Int} (h : IntsZ w (.slice A n cap) l) {i : Nat} (hi : i < l.length) :
    ∃ b off, A = some ⟨b, off, none⟩ ∧ b < w.heap.size ∧ w.cell? ⟨b, off + i, none⟩ = some (.int .i64 (l.getD i 0)) := by
  obtain ⟨_, _, A', cap', e, _, hc⟩ := h
  simp only [Value.slice.injEq] at e
  obtain ⟨rfl, rfl, rfl⟩ := e
  obtain ⟨b, off, rfl, hb, hcell⟩ := hc (by omega)
  exact ⟨b, off, rfl, hb, hcell i hi⟩
end Go.Proofs.Ytgoognipljknjaa
