/-
  Contracts: field.Inverses where every number has an inverse.
-/
import Derived.Test.YtafoonhmfieikaaInv
import Derived.Test.YtafoonhmfieikaaRegion
namespace Go.Proofs.Ytafoonhmfieikaa
open Go.RowKit Go.Shelf
set_option linter.unusedVariables false
attribute [local go_sem] Oper.semAt_some

/-- what the loop that goes backward holds: f the row, r the inverse of what is still before it -/
def Good (p : Nat) (zs : List Nat) (pre : List (Nat × Nat)) (f : Nat → Nat) (r : Nat) : Prop :=
  (∀ i, f i < p) ∧ r < p ∧ ∀ k, k ≤ zs.length → pre = downto zs zs.length k → r = M.restAt p zs (zs.length - k) ∧ ∀ i, i < zs.length → f i = if i < zs.length - k then M.preAt p zs i else M.pw p (zs.getD i 0) (p - 2)
theorem Good.step {p : Nat} {zs : List Nat} {pre : List (Nat × Nat)} {f : Nat → Nat} {r : Nat} (hi : M.isP p = true) (hz : ∀ x ∈ zs, x % p ≠ 0) (h : Good p zs pre f r) (x : Nat × Nat) :
    Good p zs (pre ++ [x]) (fun j => if j = x.1 then f x.1 * r % p else f j) (r * x.2 % p) := by
  have hp := M.pos_of hi
  obtain ⟨h1, h2, h3⟩ := h
  refine ⟨fun i => ?_, Nat.mod_lt _ (by omega), fun k hk e => ?_⟩
  · show (if i = x.1 then f x.1 * r % p else f i) < p
    by_cases e : i = x.1
    · rw [if_pos e]; exact Nat.mod_lt _ (by omega)
    · rw [if_neg e]; exact h1 i
  · have hl := congrArg List.length e
    rw [downto_len] at hl
    simp only [List.length_append, List.length_cons, List.length_nil] at hl
    obtain ⟨k', rfl⟩ : ∃ k', k = k' + 1 := ⟨k - 1, by omega⟩
    rw [downto_succ] at e
    obtain ⟨e1, e2⟩ := List.append_inj' e rfl
    obtain ⟨g1, g2⟩ := h3 k' (by omega) e1
    have hx : x = (zs.length - 1 - k', zs[zs.length - 1 - k']?.getD 0) := by simpa using e2
    obtain ⟨m, hm⟩ : ∃ m, m = zs.length - 1 - k' := ⟨_, rfl⟩
    rw [← hm] at hx
    have hml : m < zs.length := by omega
    have hm1 : zs.length - k' = m + 1 := by omega
    have hm2 : zs.length - (k' + 1) = m := by omega
    rw [hm1] at g1 g2
    rw [hm2]
    have hx2 : x.2 = zs.getD m 0 := by rw [hx, List.getD_eq_getElem?_getD]
    have hx1 : x.1 = m := by rw [hx]
    rw [hx1, hx2]
    refine ⟨by rw [g1, M.restAt_pred p zs hml], fun i hi' => ?_⟩
    show (if i = m then f m * r % p else f i) = _
    by_cases he : i = m
    · subst he
      rw [if_pos rfl, if_neg (Nat.lt_irrefl _), g2 i hi', if_pos (Nat.lt_succ_self _), g1]
      exact M.inv_at hi zs hz hi'
    · rw [if_neg he, g2 i hi']
      by_cases h : i < m
      · rw [if_pos h, if_pos (by omega)]
      · rw [if_neg h, if_neg (by omega)]

set_option maxRecDepth 100000 in
set_option maxHeartbeats 2000000 in
theorem inverses_cells (p b off cap : Nat) (zs : List Nat) (w : World) (hv : M.validB p zs = true) (h0 : NoZero zs zs.length) (hN : Nums w (.slice (some ⟨b, off, none⟩) zs.length cap) zs) (hb : b < w.heap.size)
    (hcell : ∀ i, i < zs.length → w.cell? ⟨b, off + i, none⟩ = some (.int .u64 (zs.getD i 0))) :
    Calls Try.prog 84 #[.int .u64 p, .slice (some ⟨b, off, none⟩) zs.length cap] w fun e w' => e = .returned (.tuple #[.slice (some ⟨w.heap.size + 1, 0, none⟩) zs.length zs.length, .int .i64 0]) ∧ Below w.heap.size w w' ∧
      w.heap.size + 1 < w'.heap.size ∧ ∀ i, i < zs.length → w'.cell? ⟨w.heap.size + 1, i, none⟩ = some (.int .u64 (M.pw p (zs.getD i 0) (p - 2) : Nat)) := by
  obtain ⟨h3, hp⟩ := M.pos_of (M.validB_isP hv)
  have hV := valid_any p _ zs (w.alloc (.cells #[.int .u64 p] 22)) (by omega) (hN.alloc _)
  rw [hv] at hV
  have HV := Lib.hid hV
  have HZ := Lib.hid (contains_no _ zs (w.alloc (.cells #[.int .u64 p] 22)) (hN.alloc _) h0)
  have hlen := hN.2.1
  have HC := Lib.hid hcell
  have HW := Lib.hid (M.validB_within hv)
  have HI := Lib.hid (M.validB_isP hv)
  have H0 := Lib.hid h0
  obtain ⟨i0, hi0, hz0, hz1, hz2⟩ := info_parts infoU64
  clear hV hv hN hcell h0
  refine (callsIn_wide (n := 8)).1 ?_
  refine callsIn_of_wp_marks Try.func84 rfl trivial ?_ rfl
  simp only [Try.ntmps84, List.size_toArray, List.length_cons, List.length_nil, Nat.reduceAdd, Nat.reduceSub, Array.replicate_succ, Array.replicate_zero, List.push_toArray, List.append_toArray, List.nil_append, List.cons_append]
  gi_wp2_with (first | (gi_at_make; refine wpListIn_make_full _ rfl _ _ _ rfl 22 i0 (.int .u64 0) Try.underlying23 hi0 hz0 hz1 rfl .i64 .i64 zs.length rfl rfl (by rw [hz2]; omega) (by omega) ?_; intro cs hcs) | (refine ⟨trivial, ?_⟩; gi_at_call 88; refine (callsIn_wide.2 HV.out).mono ?_; rintro e w' ⟨rfl, rfl⟩) | (refine ⟨trivial, ?_⟩; gi_at_call 91; refine (callsIn_wide.2 HZ.out).mono ?_; rintro e w' ⟨rfl, rfl⟩))
  gi_loopw [7, 24] (fun tb ti wr => ∃ k : Nat, k ≤ zs.length ∧ ti = .int .i64 k ∧ tb = .int .u64 (M.preAt p zs k : Nat) ∧ St w.heap.size zs.length p (fun i => if i < k then M.preAt p zs i else 0) wr ∧ wr.heap.size = w.heap.size + 3 ∧ Below w.heap.size w wr) (fun _ ti _ => zs.length - (intOf ti).toNat)
  case atStart =>
    refine ⟨0, by omega, rfl, ?_, (St.start hcs _ _ _).congr (by simp), by simp, ?_⟩
    · rw [show M.preAt p zs 0 = 1 by unfold M.preAt; rw [List.take_zero]; exact Nat.mod_eq_of_lt (by simp only [M.prod]; omega)]; rfl
    · exact (((Below.refl _ w).alloc (Nat.le_refl _) _).alloc (by simp) _).alloc (by simp; omega) _
  case round =>
    obtain ⟨k, hk, rfl, rfl, hst, hsz, hB⟩ := hrel
    have hpl : M.preAt p zs k < p := Nat.mod_lt _ (by omega)
    by_cases hlt : k < zs.length
    · have hc1 := (hB.cell (p := ⟨b, off + k, none⟩) hb).trans (HC.out k hlt)
      have hx := M.within_mem HW.out hlt
      have hps : M.preAt p zs k * zs.getD k 0 % p = M.preAt p zs (k + 1) := (M.preAt_succ p zs hlt).symm
      obtain ⟨x, ex⟩ : ∃ x, x = zs.getD k 0 := ⟨_, rfl⟩
      obtain ⟨y, ey⟩ : ∃ y, y = M.preAt p zs k := ⟨_, rfl⟩
      rw [← ex] at hc1 hx hps
      rw [← ey] at hps hpl ⊢
      have hmul : y * x ≤ 65536 * 65536 := Nat.mul_le_mul (by omega) (by omega)
      have hi1 := hst.1.2
      have hf1 := (hst.2 k hlt).2
      obtain ⟨u1, hu1⟩ : ∃ u, wr.cell? ⟨w.heap.size + 1, k, none⟩ = some u := ⟨_, (hst.2 k hlt).1⟩
      have hs1 := hst.set (x := y) hlt
      have hpc := hs1.1.1
      have hB1 := hB.setCell (p := ⟨w.heap.size + 1, k, none⟩) (Nat.le_succ _) (.int .u64 y)
      have HS := Lib.hid hs1
      have HP := Lib.hid hps
      have HEY := Lib.hid ey
      clear hs1 hst hps ex ey
      gi_wp2
      go_roundw
      case rel =>
        refine ⟨k + 1, by omega, by go_num, by rw [← HP.out]; go_num, HS.out.congr ?_, by simpa using hsz, hB1⟩
        intro i hi
        by_cases e : i = k
        · subst e; simp [HEY.out]
        · simp only [e, if_false]; by_cases h : i < k
          · rw [if_pos h, if_pos (by omega)]
          · rw [if_neg h, if_neg (by omega)]
      case measure => simp [intOf]; omega
    · obtain rfl : k = zs.length := by omega
      have hpc := hst.1.1
      have hin := inverse_any p (M.preAt p zs zs.length) wr h3 hp hpl
      have hre := M.restAt_end p zs (by omega)
      rw [← hre] at hin
      have HIN := Lib.hid hin
      have hst1 := hst.congr (g := M.preAt p zs) (fun i hi => if_pos hi)
      have hsz1 := hsz
      obtain ⟨y, ey⟩ : ∃ y, y = M.preAt p zs zs.length := ⟨_, rfl⟩
      rw [← ey] at HIN ⊢
      have HS := Lib.hid hst1
      clear hst hst1 hin hre ey
      gi_wp2_with (first | (refine ⟨trivial, ?_⟩; gi_at_call 92; refine (callsIn_wide.2 HIN.out).mono ?_; rintro e w' ⟨rfl, rfl⟩) | (refine ⟨trivial, ?_⟩; gi_at_call 86; refine (back_in Fence.wide _ trivial rfl _ _ _ _).mono ?_; rintro e w' ⟨rfl, rfl⟩))
      obtain ⟨W0, hW0⟩ : ∃ W0, ((wr.alloc (.cells #[.int .u64 (M.restAt p zs zs.length : Nat)] 22)).alloc (.cells #[.slice (some ⟨b, off, none⟩) zs.length cap] 23)) = W0 := ⟨_, rfl⟩
      have hsz0 : W0.heap.size = w.heap.size + 5 := by rw [← hW0]; simp; omega
      have hB0 : Below w.heap.size w W0 := by rw [← hW0]; exact (hB.alloc hB.size _).alloc (by simp; omega) _
      have hst0 : St w.heap.size zs.length p (M.preAt p zs) W0 := by rw [← hW0]; exact (HS.out.alloc _).alloc _
      have bR := (Boxed.new wr 22 (.int .u64 (M.restAt p zs zs.length : Nat))).alloc (.cells #[.slice (some ⟨b, off, none⟩) zs.length cap] 23)
      have bS := Boxed.new (wr.alloc (.cells #[.int .u64 (M.restAt p zs zs.length : Nat)] 22)) 23 (.slice (some ⟨b, off, none⟩) zs.length cap)
      rw [World.size_alloc, hsz1] at bS
      rw [hsz1] at bR
      rw [hW0] at bR bS ⊢
      have hcs0 : ∀ j, j < zs.length → W0.cell? ⟨b, off + j, none⟩ = some (.int .u64 ((zs[j]?.getD 0 : Nat) : Int)) := fun j hj => by
        rw [← List.getD_eq_getElem?_getD]; exact (hB0.cell (p := ⟨b, off + j, none⟩) hb).trans (HC.out j hj)
      refine wpIn_rangeFunc_ownG rfl (by decide) (gf := 95) (lb := #[.pointer (some ⟨w.heap.size + 3 + 1, 0, none⟩)]) rfl trivial (enters_of Try.func95 (by kernel_rfl) rfl)
        (back_stops Fence.wide _ trivial rfl (by decide) (w.heap.size + 3 + 1) w.heap.size b off zs.length cap zs hlen W0 (by omega) (by omega) hb bS.cell hcs0) KB.trans (kb_b (by omega) (by omega)) (Below.refl _ _) (fun _ => rfl)
        (fun pre W => (∃ f r, Good p zs (pairs pre) f r ∧ St w.heap.size zs.length p f W ∧ W.cell? ⟨w.heap.size + 3, 0, none⟩ = some (.int .u64 (r : Nat)) ∧ W.frozen? ⟨w.heap.size + 3, 0, none⟩ = false) ∧ Below w.heap.size w W)
        (fun _ _ _ => False)
        (OwnFrom.and (Own.from (fun s A B row hs hg hr => by obtain ⟨f, r, g1, g2, g3, g4⟩ := hs; exact ⟨f, r, g1, g2.own hg hr, cell_kept g3 hg hr, (frozen_kept g3 hg hr).trans g4⟩) _) (ownFrom_below (Nat.le_refl _) (by omega)))
        (fun _ _ _ _ _ hs _ _ => hs)
        ⟨⟨_, _, ?start, hst0, bR.cell, bR.frozen⟩, hB0⟩
        (fun x => { tmps := #[.int .u64 p, .slice (some ⟨b, off, none⟩) zs.length cap, .pointer (some ⟨w.heap.size, 0, none⟩), undef, .slice none 0 0, .int .i64 0, .pointer (some ⟨w.heap.size + 1 + 1, 0, none⟩), .int .u64 y, u8, u9,
          .pointer (some ⟨w.heap.size + 3, 0, none⟩), .int .i64 (x.1.1 : Nat), .int .u64 (x.1.2 : Nat), .int .u64 p, .slice (some ⟨b, off, none⟩) zs.length cap, .bool true, .bool false, .slice (some ⟨b, off, none⟩) zs.length cap, .bool false,
          .slice (some ⟨b, off, none⟩) zs.length cap, .int .i64 zs.length, .slice (some ⟨w.heap.size + 1, 0, none⟩) zs.length zs.length, .slice (some ⟨b, off, none⟩) zs.length cap, .int .i64 zs.length, .int .i64 zs.length, .bool false,
          u26, u27, u28, u29, u30, u31, u32, u33, u34, u35, u36, u37, u38, .int .u64 p, .int .u64 y, .int .u64 (M.restAt p zs zs.length : Nat), .slice (some ⟨b, off, none⟩) zs.length cap, .func (.func 95) #[] #[.pointer (some ⟨w.heap.size + 3 + 1, 0, none⟩)],
          .int .i64 (x.1.1 : Nat), .int .u64 (x.1.2 : Nat), undef, undef, undef, undef, undef, undef, undef, undef, undef, undef, undef, undef, undef, undef, undef, undef, undef], defers := [] }) ?assign ?body ?done ?stop
      case start =>
        refine ⟨fun i => Nat.mod_lt _ (by omega), Nat.mod_lt _ (by omega), fun k hk e => ?_⟩
        have := congrArg List.length e
        rw [downto_len] at this
        obtain rfl : k = 0 := by simpa [pairs] using this.symm
        exact ⟨by simp, fun i hi => by simp [hi]⟩
      case assign =>
        intro l x W K hK
        gi_wp2
        exact hK
      case stop =>
        rintro D c pre W _ _ h _
        exact h.elim
      case body =>
        rintro l pre x W ⟨⟨f, r, hG, hst, hr, hrf⟩, hB⟩ _
        have hx1 := x.2.1
        have hx2 := x.2.2
        obtain ⟨xi, exi⟩ : ∃ xi, xi = x.1.1 := ⟨_, rfl⟩
        obtain ⟨xv, exv⟩ : ∃ xv, xv = x.1.2 := ⟨_, rfl⟩
        dsimp only
        have hpr : pairs (pre ++ [x]) = pairs pre ++ [(xi, xv)] := by rw [exi, exv]; simp [pairs]
        rw [← exi, ← exv]
        rw [← exi] at hx1
        rw [← exi, ← exv] at hx2
        have hgl := hG.1 xi
        have hrl := hG.2.1
        have hxl : xv < p := by
          have h := M.within_mem HW.out hx1
          rw [List.getD_eq_getElem?_getD] at h
          rw [hx2]; exact h
        have hmul : f xi * r ≤ 65536 * 65536 := Nat.mul_le_mul (by omega) (by omega)
        have hmul2 : r * xv ≤ 65536 * 65536 := Nat.mul_le_mul (by omega) (by omega)
        have hz : ∀ x ∈ zs, x % p ≠ 0 := by
          intro x hx
          obtain ⟨i, hi, rfl⟩ := List.getElem_of_mem hx
          have h1 := M.within_mem HW.out hi
          have h2 := H0.out i hi
          rw [List.getD_eq_getElem?_getD, List.getElem?_eq_getElem hi] at h1 h2
          simp only [Option.getD_some] at h1 h2
          rw [Nat.mod_eq_of_lt h1]; exact h2
        have HG := Lib.hid (hG.step HI.out hz (xi, xv))
        have HST := Lib.hid hst
        have HB := Lib.hid hB
        have HR := Lib.hid hr
        have hin : W.cell? ⟨w.heap.size + 1 + 1, 0, none⟩ = some (.slice (some ⟨w.heap.size + 1, 0, none⟩) zs.length zs.length) := hst.1.2
        have hpc := hst.1.1
        have hfc := (hst.2 xi hx1).1
        obtain ⟨g, eg⟩ : ∃ g, g = f xi := ⟨_, rfl⟩
        rw [← eg] at hfc hgl hmul
        have EG := Lib.hid eg
        have HPR := Lib.hid hpr
        clear eg hst hG hz HV HZ HIN HS hst0 hcs0 hcs bS bR hW0 hB hx2 exi exv hpr
        gi_wp2
        refine wpIn_region_tail (F := Fence.wide) (lr := l) rfl (by kernel_rfl) (List.dropLast_concat_getLast (by simp)).symm (by kernel_rfl) (by kernel_rfl) (by kernel_rfl) (by kernel_rfl) (by kernel_rfl) ?_
        dsimp only [List.dropLast, List.getLast]
        repeat (gi_big_quiet_step (fail))
        refine wpQuietIn_nil ?_
        rintro _ ⟨nq, rfl⟩
        obtain ⟨W2, hW2⟩ : ∃ W2, W2 = W.drewN nq := ⟨_, rfl⟩
        have hst2 : St w.heap.size zs.length p f W2 := by rw [hW2]; exact HST.out
        have hB2 : Below w.heap.size w W2 := by rw [hW2]; exact HB.out.trans ⟨rfl, rfl, rfl, Nat.le_refl _, fun _ _ => rfl⟩
        have hr2 : W2.cell? ⟨w.heap.size + 3, 0, none⟩ = some (.int .u64 (r : Nat)) := by rw [hW2]; exact HR.out
        have hrf2 : W2.frozen? ⟨w.heap.size + 3, 0, none⟩ = false := by rw [hW2]; exact hrf
        have hKB : KB w.heap.size (w.heap.size + 3 + 1) W W2 := by rw [hW2]; exact ⟨⟨rfl, rfl, rfl, Nat.le_refl _, fun _ _ => rfl⟩, rfl⟩
        have hKF : KeepsFrom W0.heap.size W W2 := by rw [hW2]; exact ⟨Nat.le_refl _, fun _ _ _ h _ => h⟩
        rw [← hW2]
        clear hin hpc hfc hr hrf hW2 HST HB HR
        obtain ⟨v1, ev1⟩ : ∃ v1, v1 = g * r % p := ⟨_, rfl⟩
        obtain ⟨v2, ev2⟩ : ∃ v2, v2 = r * xv % p := ⟨_, rfl⟩
        have e1 : (g : Int) * r % p = (v1 : Nat) := by rw [ev1]; simp only [Int.natCast_emod, Int.natCast_mul]
        have e2 : (r : Int) * xv % p = (v2 : Nat) := by rw [ev2]; simp only [Int.natCast_emod, Int.natCast_mul]
        have hs1 := hst2.set (x := v1) hx1
        have hs2 := hs1.other (b := w.heap.size + 3) (by omega) 0 (.int .u64 (v2 : Nat))
        obtain ⟨hfc, hff⟩ := hst2.2 xi hx1
        have hr1 : (W2.setCell ⟨w.heap.size + 1, xi, none⟩ (.int .u64 (v1 : Nat))).cell? ⟨w.heap.size + 3, 0, none⟩ = some (.int .u64 (r : Nat)) := by
          rw [World.cell?_setCell_other _ _ _ _ (by intro e; have := congrArg Addr.block e; simp at this)]; exact hr2
        have hrf1 : (W2.setCell ⟨w.heap.size + 1, xi, none⟩ (.int .u64 (v1 : Nat))).frozen? ⟨w.heap.size + 3, 0, none⟩ = false := by rw [World.frozen?_setCell]; exact hrf2
        have hr3 := World.cell?_setCell_same _ _ (.int .u64 (v2 : Nat)) hr1
        have hrf3 : ((W2.setCell ⟨w.heap.size + 1, xi, none⟩ (.int .u64 (v1 : Nat))).setCell ⟨w.heap.size + 3, 0, none⟩ (.int .u64 (v2 : Nat))).frozen? ⟨w.heap.size + 3, 0, none⟩ = false := by rw [World.frozen?_setCell]; exact hrf1
        have hpc1 := hs1.1.1
        have hb3 := (hB2.setCell (p := ⟨w.heap.size + 1, xi, none⟩) (Nat.le_succ _) (.int .u64 (v1 : Nat))).setCell (p := ⟨w.heap.size + 3, 0, none⟩) (by simp) (.int .u64 (v2 : Nat))
        have hk3 := (KeepsOthers.setCell W2 ⟨w.heap.size + 1, xi, none⟩ (.int .u64 (v1 : Nat))).trans (KeepsOthers.setCell _ ⟨w.heap.size + 3, 0, none⟩ (.int .u64 (v2 : Nat)))
        have hkb3 : KB w.heap.size (w.heap.size + 3 + 1) W2 ((W2.setCell ⟨w.heap.size + 1, xi, none⟩ (.int .u64 (v1 : Nat))).setCell ⟨w.heap.size + 3, 0, none⟩ (.int .u64 (v2 : Nat))) := by
          refine ⟨((Below.refl _ _).setCell (p := ⟨w.heap.size + 1, xi, none⟩) (Nat.le_succ _) _).setCell (p := ⟨w.heap.size + 3, 0, none⟩) (by simp) _, ?_⟩
          rw [World.cell?_setCell_other _ _ _ _ (by intro e; have := congrArg Addr.block e; simp at this), World.cell?_setCell_other _ _ _ _ (by intro e; have := congrArg Addr.block e; simp at this)]
        have HS2 := Lib.hid hs2
        have HR3 := Lib.hid hr3
        have HF3 := Lib.hid hrf3
        have HB3 := Lib.hid hb3
        have HK3 := Lib.hid hk3
        have HKB3 := Lib.hid hkb3
        have HE := Lib.hid (And.intro ev1 ev2)
        clear hs1 hs2 hr3 hrf3 hb3 hk3 hkb3 hst2 hr2 hrf2 ev1 ev2
        rw [e1]
        gi_wp2
        have hg : Good p zs (pairs (pre ++ [x])) (fun j => if j = xi then v1 else f j) v2 := by rw [HPR.out, HE.out.1, HE.out.2, EG.out]; exact HG.out
        exact ⟨hKF.trans (HK3.out.from _), hKB.trans HKB3.out, ⟨_, _, hg, HS2.out, HR3.out, HF3.out⟩, HB3.out⟩
      case done =>
        rintro D ys W hD hys ⟨⟨f, r, hG, hst, hr, hrf⟩, hB⟩ hK
        have hin : W.cell? ⟨w.heap.size + 1 + 1, 0, none⟩ = some (.slice (some ⟨w.heap.size + 1, 0, none⟩) zs.length zs.length) := hst.1.2
        obtain ⟨_, hf⟩ := hG.2.2 zs.length (Nat.le_refl _) hys
        gi_wp2
        refine ⟨by simp, .inl ⟨_, _, rfl, run_takeDeferred hK, ?_⟩⟩
        have hst1 := hst.own (grownBy_putObj' W D (.deferred none)) (fun r e => by cases e; exact ⟨_, hK, rfl⟩)
        have hlt := World.block_lt_of_cell? _ _ hst1.1.2
        refine ⟨.tuple #[.slice (some ⟨w.heap.size + 1, 0, none⟩) zs.length zs.length, .int .i64 0], ?_, rfl, hB.trans (belowK_b (w := w) (Nat.le_refl _) W D _ _ (by omega) hK rfl rfl), by dsimp only at hlt; omega, fun i hi => ?_⟩
        · simp [results, Try.f84, go_sem]
        · rw [(hst1.2 i hi).1, hf i hi, if_neg (by omega)]

set_option maxRecDepth 100000 in
set_option maxHeartbeats 2000000 in
theorem inverses_nil (p cap : Nat) (av : Option Addr) (w : World) (hv : M.isP p = true) (hN : Nums w (.slice av 0 cap) []) :
    Calls Try.prog 84 #[.int .u64 p, .slice av 0 cap] w fun e w' => e = .returned (.tuple #[.slice (some ⟨w.heap.size + 1, 0, none⟩) 0 0, .int .i64 0]) ∧ Below w.heap.size w w' ∧ w.heap.size + 1 < w'.heap.size := by
  obtain ⟨h3, hp⟩ := M.pos_of hv
  have hV := valid_any p _ [] (w.alloc (.cells #[.int .u64 p] 22)) (by omega) (hN.alloc _)
  rw [show M.validB p [] = true by simp [M.validB, M.within, hv]] at hV
  have HV := Lib.hid hV
  have HZ := Lib.hid (contains_no _ [] (w.alloc (.cells #[.int .u64 p] 22)) (hN.alloc _) (fun i hi => by simp at hi))
  obtain ⟨i0, hi0, hz0, hz1, hz2⟩ := info_parts infoU64
  clear hV hv hN
  refine (callsIn_wide (n := 8)).1 ?_
  refine callsIn_of_wp_marks Try.func84 rfl trivial ?_ rfl
  simp only [Try.ntmps84, List.size_toArray, List.length_cons, List.length_nil, Nat.reduceAdd, Nat.reduceSub, Array.replicate_succ, Array.replicate_zero, List.push_toArray, List.append_toArray, List.nil_append, List.cons_append]
  gi_wp2_with (first | (gi_at_make; refine wpListIn_make_full _ rfl _ _ _ rfl 22 i0 (.int .u64 0) Try.underlying23 hi0 hz0 hz1 rfl .i64 .i64 0 rfl rfl (by rw [hz2]; omega) (by omega) ?_; intro cs hcs) | (refine ⟨trivial, ?_⟩; gi_at_call 88; refine (callsIn_wide.2 HV.out).mono ?_; rintro e w' ⟨rfl, rfl⟩) | (refine ⟨trivial, ?_⟩; gi_at_call 91; refine (callsIn_wide.2 HZ.out).mono ?_; rintro e w' ⟨rfl, rfl⟩))
  gi_loopw [7, 24] (fun tb ti wr => ti = .int .i64 0 ∧ tb = .int .u64 1 ∧ St w.heap.size 0 p (fun _ => 0) wr ∧ wr.heap.size = w.heap.size + 3 ∧ Below w.heap.size w wr) (fun _ _ _ => 0)
  case atStart =>
    refine ⟨rfl, rfl, St.start hcs _ _ _, by simp, ?_⟩
    exact (((Below.refl _ w).alloc (Nat.le_refl _) _).alloc (by simp) _).alloc (by simp; omega) _
  case round =>
    obtain ⟨rfl, rfl, hst, hsz, hB⟩ := hrel
    have hpc := hst.1.1
    have hin := inverse_any p 1 wr h3 hp (by omega)
    obtain ⟨r0, er⟩ : ∃ r0, r0 = M.pw p 1 (p - 2) := ⟨_, rfl⟩
    rw [← er] at hin
    have HIN := Lib.hid hin
    have hsz1 := hsz
    have HS := Lib.hid hst
    clear hst hin er
    gi_wp2_with (first | (refine ⟨trivial, ?_⟩; gi_at_call 92; refine (callsIn_wide.2 HIN.out).mono ?_; rintro e w' ⟨rfl, rfl⟩) | (refine ⟨trivial, ?_⟩; gi_at_call 86; refine (back_in Fence.wide _ trivial rfl _ _ _ _).mono ?_; rintro e w' ⟨rfl, rfl⟩))
    obtain ⟨W0, hW0⟩ : ∃ W0, ((wr.alloc (.cells #[.int .u64 (r0 : Nat)] 22)).alloc (.cells #[.slice av 0 cap] 23)) = W0 := ⟨_, rfl⟩
    have hsz0 : W0.heap.size = w.heap.size + 5 := by rw [← hW0]; simp; omega
    have hB0 : Below w.heap.size w W0 := by rw [← hW0]; exact (hB.alloc hB.size _).alloc (by simp; omega) _
    have hst0 : St w.heap.size 0 p (fun _ => 0) W0 := by rw [← hW0]; exact (HS.out.alloc _).alloc _
    have bS := Boxed.new (wr.alloc (.cells #[.int .u64 (r0 : Nat)] 22)) 23 (.slice av 0 cap)
    rw [World.size_alloc, hsz1] at bS
    rw [hW0] at bS ⊢
    refine wpIn_rangeFunc_ownG rfl (by decide) (gf := 95) (lb := #[.pointer (some ⟨w.heap.size + 3 + 1, 0, none⟩)]) rfl trivial (enters_of Try.func95 (by kernel_rfl) rfl)
      (back_stops_nil Fence.wide _ trivial rfl (w.heap.size + 3 + 1) (n₀ := w.heap.size) cap av W0 (by omega) bS.cell) KB.trans (kb_b (by omega) (by omega)) (Below.refl _ _) (fun _ => rfl)
      (fun pre W => St w.heap.size 0 p (fun _ => 0) W ∧ Below w.heap.size w W)
      (fun _ _ _ => False)
      (OwnFrom.and (Own.from (fun s A B row hs hg hr => St.own hs hg hr) _) (ownFrom_below (Nat.le_refl _) (by omega)))
      (fun _ _ _ _ _ hs _ _ => hs)
      ⟨hst0, hB0⟩
      (fun x => { tmps := #[.int .u64 p, .slice av 0 cap, .pointer (some ⟨w.heap.size, 0, none⟩), undef, .slice none 0 0, .int .i64 0, .pointer (some ⟨w.heap.size + 1 + 1, 0, none⟩), .int .u64 1, u8, u9,
        .pointer (some ⟨w.heap.size + 3, 0, none⟩), .int .i64 (x.1.1 : Nat), .int .u64 (x.1.2 : Nat), .int .u64 p, .slice av 0 cap, .bool true, .bool false, .slice av 0 cap, .bool false,
        .slice av 0 cap, .int .i64 0, .slice (some ⟨w.heap.size + 1, 0, none⟩) 0 0, .slice av 0 cap, .int .i64 0, .int .i64 0, .bool false,
        u26, u27, u28, u29, u30, u31, u32, u33, u34, u35, u36, u37, u38, .int .u64 p, .int .u64 1, .int .u64 (r0 : Nat), .slice av 0 cap, .func (.func 95) #[] #[.pointer (some ⟨w.heap.size + 3 + 1, 0, none⟩)],
        .int .i64 (x.1.1 : Nat), .int .u64 (x.1.2 : Nat), undef, undef, undef, undef, undef, undef, undef, undef, undef, undef, undef, undef, undef, undef, undef, undef, undef], defers := [] }) ?assign ?body ?done ?stop
    case assign =>
      intro l x W K hK
      gi_wp2
      exact hK
    case stop =>
      rintro D c pre W _ _ h _
      exact h.elim
    case body =>
      intro l pre x W _ _
      exact absurd x.2.1 (Nat.not_lt_zero _)
    case done =>
      rintro D ys W hD hys ⟨hst, hB⟩ hK
      have hin : W.cell? ⟨w.heap.size + 1 + 1, 0, none⟩ = some (.slice (some ⟨w.heap.size + 1, 0, none⟩) 0 0) := hst.1.2
      gi_wp2
      refine ⟨by simp, .inl ⟨_, _, rfl, run_takeDeferred hK, ?_⟩⟩
      have hst1 := hst.own (grownBy_putObj' W D (.deferred none)) (fun r e => by cases e; exact ⟨_, hK, rfl⟩)
      have hlt := World.block_lt_of_cell? _ _ hst1.1.2
      refine ⟨.tuple #[.slice (some ⟨w.heap.size + 1, 0, none⟩) 0 0, .int .i64 0], ?_, rfl, hB.trans (belowK_b (w := w) (Nat.le_refl _) W D _ _ (by omega) hK rfl rfl), by dsimp only at hlt; omega⟩
      simp [results, Try.f84, go_sem]

/-- every number of the field but 0 has its inverse in what is handed back -/
theorem inverses_ok (p : Nat) (v : Value) (zs : List Nat) (w : World) (hv : M.validB p zs = true) (h0 : NoZero zs zs.length) (hN : Nums w v zs) :
    Calls Try.prog 84 #[.int .u64 p, v] w fun e w' => e = .returned (.tuple #[.slice (some ⟨w.heap.size + 1, 0, none⟩) zs.length zs.length, .int .i64 0]) ∧ Below w.heap.size w w' ∧
      w.heap.size + 1 < w'.heap.size ∧ ∀ i, i < zs.length → w'.cell? ⟨w.heap.size + 1, i, none⟩ = some (.int .u64 (M.pw p (zs.getD i 0) (p - 2) : Nat)) := by
  have hN' := hN
  obtain ⟨h1, h2, h3⟩ := hN
  rcases h3 with ⟨a, cap, rfl, rfl, _⟩ | ⟨b, off, cap, rfl, hc, hb, hcell⟩
  · refine (inverses_nil p cap a w (M.validB_isP hv) hN').mono ?_
    rintro e w' ⟨rfl, hB, hl⟩
    exact ⟨rfl, hB, hl, fun i hi => by simp at hi⟩
  · exact inverses_cells p b off cap zs w hv h0 hN' hb hcell
end Go.Proofs.Ytafoonhmfieikaa
