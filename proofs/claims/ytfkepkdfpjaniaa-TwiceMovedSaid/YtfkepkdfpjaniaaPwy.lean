/-
  Package poly of the program: Away, over the joined texts.
-/
import Derived.Test.YtfkepkdfpjaniaaRwy
import Derived.Test.YtfkepkdfpjaniaaLF
namespace Go.Proofs.Ytfkepkdfpjaniaa
open Go.RowKit
set_option linter.unusedVariables false
set_option maxRecDepth 100000

theorem infoPt : (Try.prog.info? 114).map (fun i => (i.zero, i.size, i.bytes)) = some (some (.agg #[.int .u64 0, .int .u64 0]), 2, 16) := by kernel_rfl

/-- the cells of the points after k rounds -/
def ptCell (xs : List Nat) (k j : Nat) : Nat := if j % 2 = 0 ∧ j / 2 < k then xs.getD (j / 2) 0 else 0
def ptCells (xs : List Nat) (k : Nat) : List Value := (List.range (xs.length * 2)).map fun j => Value.int .u64 (ptCell xs k j : Nat)
theorem ptCells_len (xs : List Nat) (k : Nat) : (ptCells xs k).length = xs.length * 2 := by simp [ptCells]
theorem ptCells_get (xs : List Nat) (k : Nat) {j : Nat} (h : j < xs.length * 2) : (ptCells xs k)[j]? = some (.int .u64 (ptCell xs k j : Nat)) := by simp [ptCells, h]
theorem ptCells_start (xs : List Nat) : (madeCells #[Value.int .u64 0, Value.int .u64 0] (xs.length * 2)).toList = ptCells xs 0 := by
  apply List.ext_getElem?
  intro j
  by_cases hj : j < xs.length * 2
  · rw [ptCells_get xs 0 hj]
    have h2 : j % 2 = 0 ∨ j % 2 = 1 := by omega
    rcases h2 with h2 | h2 <;> simp [madeCells, hj, h2, ptCell]
  · rw [List.getElem?_eq_none (l := ptCells xs 0) (by rw [ptCells_len]; omega), List.getElem?_eq_none (by simp [madeCells]; omega)]
theorem ptCells_step (xs : List Nat) {k : Nat} (h : k < xs.length) : (ptCells xs k).set (k * 2) (.int .u64 (xs.getD k 0 : Nat)) = ptCells xs (k + 1) := by
  apply List.ext_getElem?
  intro j
  rw [List.getElem?_set]
  by_cases hj : j < xs.length * 2
  · rw [ptCells_get xs _ hj, ptCells_get xs _ hj]
    by_cases he : k * 2 = j
    · subst he
      rw [if_pos rfl, if_pos (by rw [ptCells_len]; exact hj)]
      unfold ptCell
      rw [if_pos (by omega), Nat.mul_div_cancel k (by omega)]
    · rw [if_neg he]
      unfold ptCell
      by_cases h1 : j % 2 = 0 ∧ j / 2 < k
      · rw [if_pos h1, if_pos (by omega)]
      · rw [if_neg h1, if_neg (by omega)]
  · rw [if_neg (by omega), List.getElem?_eq_none (by rw [ptCells_len]; omega), List.getElem?_eq_none (by rw [ptCells_len]; omega)]
/-- the points and one more -/
theorem pts_of_own {w : World} {base : Nat} {v : Value} {xs : List Nat} (hw : ∀ x ∈ xs, x < 18446744073709551616) (hl : xs.length ≤ 1000) (h : w.ownsRow base 114 2 v (xs.length + 1) (ptCells xs xs.length ++ [.int .u64 (0 : Nat), .int .u64 (1 : Nat)])) :
    Pts w v (xs ++ [0]) (List.replicate xs.length 0 ++ [1]) := by
  have hlt := h.lt
  have hcells := fun g hg => h.cells (g := g) hg
  rcases h.2 with ⟨_, h0⟩ | ⟨g, cap, cur, rfl, hb, hg, hc, _⟩
  · omega
  refine ⟨by simp, by simp; omega, ?_, ?_, some ⟨g, 0, none⟩, cap, by simp, by simpa using hc, fun _ => ⟨g, 0, rfl, (hlt g rfl).2, fun i hi => ?_⟩⟩
  · intro x hx; rcases List.mem_append.1 hx with h1 | h1
    · exact hw x h1
    · simp at h1; omega
  · intro x hx; rcases List.mem_append.1 hx with h1 | h1
    · have := List.eq_of_mem_replicate h1; omega
    · simp at h1; omega
  · have hi' : i < xs.length + 1 := by simpa using hi
    have e := fun j u hu => hcells g rfl j u hu
    by_cases hx : i < xs.length
    · constructor
      · have := e (i * 2) (.int .u64 (xs.getD i 0 : Nat)) (by
          rw [List.getElem?_append_left (by rw [ptCells_len]; omega), ptCells_get _ _ (by omega)]
          unfold ptCell; rw [if_pos (by omega), Nat.mul_div_cancel i (by omega)])
        rw [Addr.add_lit] at this
        rw [this, List.getD_eq_getElem?_getD, List.getD_eq_getElem?_getD, List.getElem?_append_left hx]
      · have := e (i * 2 + 1) (.int .u64 (0 : Nat)) (by
          rw [List.getElem?_append_left (by rw [ptCells_len]; omega), ptCells_get _ _ (by omega)]
          unfold ptCell; rw [if_neg (by omega)])
        rw [Addr.add_lit] at this
        rw [Nat.add_assoc, this, List.getD_eq_getElem?_getD, List.getElem?_append_left (by simpa using hx)]
        simp [hx]
    · obtain rfl : i = xs.length := by omega
      constructor
      · have := e (xs.length * 2) (.int .u64 (0 : Nat)) (by rw [List.getElem?_append_right (by rw [ptCells_len]; omega), ptCells_len, Nat.sub_self]; rfl)
        rw [Addr.add_lit] at this
        rw [this, List.getD_eq_getElem?_getD, List.getElem?_append_right (by omega), Nat.sub_self]; rfl
      · have := e (xs.length * 2 + 1) (.int .u64 (1 : Nat)) (by rw [List.getElem?_append_right (by rw [ptCells_len]; omega), ptCells_len, Nat.add_sub_cancel_left]; rfl)
        rw [Addr.add_lit] at this
        rw [Nat.add_assoc, this, List.getD_eq_getElem?_getD, List.getElem?_append_right (by simp), List.length_replicate, Nat.sub_self]; rfl

namespace M
/-- f is 1 at 0 and 0 at every one of xs, and has at most one coefficient more than they are many -/
def AwayOf (p : Nat) (xs f : List Nat) : Prop := Thru p (xs ++ [0]) (List.replicate xs.length 0 ++ [1]) f
theorem nodup_snoc {xs : List Nat} (h0 : NoZ xs) : (xs ++ [0]).Nodup ↔ xs.Nodup := by
  rw [List.nodup_append]
  constructor
  · exact fun h => h.1
  · intro h
    refine ⟨h, by simp, fun a ha b hb => ?_⟩
    simp at hb
    subst hb
    exact h0 a ha
end M

/-- what Away answers where its arguments are in order -/
def AwayEnd (w : World) (p : Nat) (xs : List Nat) (e : Ending) (w' : World) : Prop :=
  Below w.heap.size w w' ∧ ((xs.Nodup ∧ ∃ v f, e = .returned (.tuple #[v, .int .i64 0]) ∧ Nums w' v f ∧ M.AwayOf p xs f) ∨ (¬ xs.Nodup ∧ e = .returned (.tuple #[.slice none 0 0, .int .i64 6])))

set_option maxHeartbeats 1000000 in
theorem away_bad (p : Nat) (v : Value) (xs : List Nat) (w : World) (hp : p < 18446744073709551616) (hv : Nums w v xs) (h : M.chk p xs 200 ≠ 0) :
    Calls Try.prog 67 #[.int .u64 p, v] w fun e w' => e = .returned (.tuple #[.slice none 0 0, .int .i64 (M.chk p xs 200)]) ∧ w = w' := by
  have HC := Lib.hid (check_any p v xs 200 w hp (by omega) hv)
  obtain ⟨A, cap, rfl⟩ := nums_slice' hv
  have hb : (M.chk p xs 200 != 0) = true := by rw [bne_iff_ne]; exact h
  obtain ⟨c, ec⟩ : ∃ c, c = M.chk p xs 200 := ⟨_, rfl⟩
  rw [← ec] at HC hb ⊢
  clear ec h hp
  go_enter Try.func67, Try.ntmps67
  go_wp2_with fail
  refine HC.out.mono ?_
  rintro e w1 ⟨rfl, rfl⟩
  go_wp2_with fail
  go_ret2
  exact ⟨rfl, rfl⟩

set_option maxHeartbeats 4000000 in
theorem away_any (p : Nat) (v : Value) (xs : List Nat) (w : World) (hv : Nums w v xs) (h : M.chk p xs 200 = 0) :
    Calls Try.prog 67 #[.int .u64 p, v] w fun e w' => (M.NoZ xs → AwayEnd w p xs e w') ∧ (¬ M.NoZ xs → e = .returned (.tuple #[.slice none 0 0, .int .i64 7]) ∧ Below w.heap.size w w') := by
  obtain ⟨hi, hl, hwx⟩ := M.chk_ok h
  obtain ⟨h3, hp⟩ := M.pos_of hi
  have hc := check_any p v xs 200 w (by omega) (by omega) hv
  rw [h] at hc
  have HC := Lib.hid hc
  obtain ⟨A, cap, rfl, _, _, hcells⟩ := nums_view hv
  have HV := Lib.hid hcells
  have HW := Lib.hid hwx
  have HI := Lib.hid hi
  have HU := Lib.hid hv.1
  obtain ⟨i0, hi0, hz0, hz1, hz2⟩ := info_parts infoPt
  clear h hi hwx hcells hc hv
  go_enter Try.func67, Try.ntmps67
  go_wp2_with fail
  refine HC.out.mono ?_
  rintro e w1 ⟨rfl, rfl⟩
  go_wp2_with (refine wpList_make_full _ rfl _ _ 112 rfl w.heap.size 114 i0 (.agg #[.int .u64 0, .int .u64 0]) 2 Try.underlying112 hi0 hz0 hz1 .i64 .i64 _ _ xs.length rfl rfl rfl rfl ?c1 ?c2 ?c3 ?_)
  case c1 => rw [hz2]; omega
  case c2 => unfold maxLen; omega
  case c3 => exact Nat.le_refl _
  intro w1 hown hgrow
  rw [ptCells_start] at hown
  have HB1 := Lib.hid ((Below.refl w.heap.size w).grown hgrow (Nat.le_refl _) (by simp))
  have HO1 := Lib.hid hown
  clear hown hgrow
  go_wp2_with fail
  go_loopw [21] (fun t wr => ∃ k : Nat, k ≤ xs.length ∧ t = .int .i64 k ∧ wr.ownsRow w.heap.size 114 2 (.slice (some ⟨w.heap.size, 0, none⟩) xs.length xs.length) xs.length (ptCells xs k) ∧ M.NoZ (xs.take k) ∧ Below w.heap.size w wr) (fun t _ => xs.length - (intOf t).toNat)
  case atStart => exact ⟨0, by omega, rfl, HO1.out, fun x hx => by simp at hx, HB1.out⟩
  case round =>
    obtain ⟨k, hk, rfl, hown, hno, hB⟩ := hrel
    have HO := Lib.hid hown
    have HNO := Lib.hid hno
    have HB := Lib.hid hB
    clear hown hno hB
    by_cases hlt : k < xs.length
    · obtain ⟨b, off, rfl, hb, hcell⟩ := HV.out (by omega)
      have hc := (HB.out.cell (p := ⟨b, off + k, none⟩) hb).trans (hcell k hlt)
      have c2 := (HO.out.cellAt (k * 2) (by omega)).trans (ptCells_get xs k (by omega))
      have f2 := HO.out.frozenAt (k * 2)
      have hst := HO.out.stored (k * 2) (.int .u64 (xs.getD k 0 : Nat))
      rw [ptCells_step xs hlt] at hst
      have hB2 := HB.out.setCell (p := ⟨w.heap.size, k * 2, none⟩) (Nat.le_refl _) (.int .u64 (xs.getD k 0 : Nat))
      have htk := M.take_snoc hlt
      have hmem : xs.getD k 0 ∈ xs := by rw [M.getD_lt hlt]; exact List.getElem_mem hlt
      obtain ⟨x, ex⟩ : ∃ x, x = xs.getD k 0 := ⟨_, rfl⟩
      rw [← ex] at hc hst hB2 htk hmem
      have HS := Lib.hid hst
      have HB2 := Lib.hid hB2
      have HTK := Lib.hid htk
      have HM := Lib.hid hmem
      clear hst hB2 ex hcell htk hmem
      by_cases hx0 : x = 0
      · subst hx0
        go_wp2_with fail
        go_ret2
        exact ⟨fun h => absurd rfl (h 0 HM.out), fun _ => ⟨rfl, HB.out⟩⟩
      · have hbz : ((x : Int) == 0) = false := by rw [beq_eq_false_iff_ne]; omega
        have H0 := Lib.hid hx0
        have hkn : (k : Int) < (xs.length : Nat) := by omega
        clear hx0
        go_wp2_with fail
        go_roundw
        case rel =>
          refine ⟨k + 1, by omega, by go_num, HS.out.1, ?_, HB2.out⟩
          intro y hy
          rw [HTK.out] at hy
          rcases List.mem_append.1 hy with h1 | h1
          · exact HNO.out y h1
          · rw [List.mem_singleton] at h1; subst h1; exact H0.out
        case measure => simp [intOf]; omega
    · obtain rfl : k = xs.length := by omega
      have hnz : M.NoZ xs := by have := HNO.out; rwa [List.take_length] at this
      have HNZ := Lib.hid hnz
      have k1 : ∀ (j : Nat) (u : Value), [Value.int .u64 (0 : Nat), Value.int .u64 (1 : Nat)][j]? = some u → (wr.alloc (.cells #[.int .u64 (0 : Nat), .int .u64 (1 : Nat)] 114)).cell? ((⟨wr.heap.size, 0, none⟩ : Addr).add j) = some u := by
        intro j u hu
        rw [Addr.add_lit]
        match j, hu with
        | 0, hu => simpa using hu
        | 1, hu => simpa using hu
      have K1 := Lib.hid k1
      clear hnz k1
      go_wp2_with (at_builtin; refine wpList_append_own _ rfl _ _ 112 rfl w.heap.size 114 i0 (.agg #[.int .u64 0, .int .u64 0]) 2 16 Try.underlying112 hi0 hz0 hz1 hz2 rfl (by decide) _ _ _ rfl (HO.out.alloc _) ⟨wr.heap.size, 0, none⟩ 1 1 [.int .u64 (0 : Nat), .int .u64 (1 : Nat)] rfl rfl K1.out ?d2 ?d3 ?d4 ?d5 ?_)
      case d2 => intro u hu; simp at hu; rcases hu with rfl | rfl <;> rfl
      case d3 => unfold maxLen; omega
      case d4 => omega
      case d5 => have := HB.out.size; simp; omega
      intro v' w2 hown hgrow _
      have HP := Lib.hid (pts_of_own HU.out (by omega) hown)
      have HB2 := Lib.hid ((HB.out.alloc HB.out.size _).grown hgrow (by have := HB.out.size; simp; omega) (fun j e => by simp [Value.ownBlock] at e; omega))
      have hchk : M.chkP p (xs ++ [0]) (List.replicate xs.length 0 ++ [1]) = 0 := by
        refine (M.chkP_of HI.out (by simp; omega) ⟨?_, ?_⟩).symm
        · unfold M.within; rw [List.all_append]; have := HW.out; unfold M.within at this; rw [this]; simp; omega
        · unfold M.within; rw [List.all_append]; simp; omega
      have HT := Lib.hid (through_any p v' _ _ w2 HP.out hchk)
      clear hown hgrow hchk
      go_wp2_with fail
      refine HT.out.mono ?_
      rintro e w3 ⟨hb3, h3'⟩
      have B3 := Lib.hid (HB2.out.trans (hb3.mono HB2.out.size))
      rcases h3' with ⟨hnd, v3, f, rfl, hn3, hth⟩ | ⟨hnd, rfl⟩
      · have N3 := Lib.hid hn3
        have TH := Lib.hid hth
        have ND := Lib.hid hnd
        clear hb3 hn3 hth hnd
        go_wp2_with fail
        go_ret2
        exact ⟨fun _ => ⟨B3.out, .inl ⟨(M.nodup_snoc HNZ.out).1 ND.out, _, f, rfl, N3.out, TH.out⟩⟩, fun h => absurd HNZ.out h⟩
      · have ND := Lib.hid hnd
        clear hb3 hnd
        go_wp2_with fail
        go_ret2
        exact ⟨fun _ => ⟨B3.out, .inr ⟨fun h => ND.out ((M.nodup_snoc HNZ.out).2 h), rfl⟩⟩, fun h => absurd HNZ.out h⟩
end Go.Proofs.Ytfkepkdfpjaniaa
