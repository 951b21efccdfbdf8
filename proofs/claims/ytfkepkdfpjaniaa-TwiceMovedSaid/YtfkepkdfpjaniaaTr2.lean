/-
  The reference of package twice: Low, Whole, High.
-/
import Derived.Test.YtfkepkdfpjaniaaTr1
import Derived.Test.YtfkepkdfpjaniaaRA
import Derived.Test.YtfkepkdfpjaniaaLex2
import Derived.Test.YtfkepkdfpjaniaaP7b
import Derived.Deep.AppendLies
import Derived.Deep.RegionHeld3
namespace Go.Proofs.Ytfkepkdfpjaniaa
open Go.RowKit
set_option linter.unusedVariables false
set_option maxRecDepth 100000

section
variable {P : Program} {ops : Array Oper} {md : Region.Mode} {Q : Exit → Act → World → Prop} {S : World → Prop}
/-- operation k may wait till the one behind it has come -/
def lateD (md : Region.Mode) (ops : Array Oper) (k : Nat) : Bool :=
  let n := ops.size
  let L0 := lexUp n k
  let L1 := L0.setIfInBounds (k + 1) true
  (Region.ready md ops L0).contains (k + 1) && Region.free md ops L0 (k + 1) && (Region.ready md ops L1 == [k]) && (L1.setIfInBounds k true == lexUp n (k + 2))
theorem LexH.late1 {o o1 : Oper} {l : List Oper} {k : Nat} {v1 : Value} {a : Act} {w : World} (hb : lateD md ops k = true)
    (hw1 : Region.wanted o1 (yielded ops a.tmps) = true) (hv1 : ∀ w, S w → (execOp a.eval o1).run P w = .ok (.value v1) w)
    (hw : Region.wanted o (yielded ops (a.put o1.dst v1).tmps) = true)
    (h : ∀ K : Act → World → Prop, Shut (∀ a w, S w → (S w → LexH P md ops Q S l (k + 2) a w) → K a w) → Oper.wp P o (a.put o1.dst v1) w K Q) :
    LexH P md ops Q S (o :: o1 :: l) k a w := by
  intro hl hs hB hQ hS
  simp only [lateD, Bool.and_eq_true] at hb
  obtain ⟨⟨⟨r1, f1⟩, r0⟩, he⟩ := hb
  have h0 : ops[k]? = some o := by simpa using (hl 0).symm
  have h1 : ops[k + 1]? = some o1 := by simpa using (hl 1).symm
  have hl3 : ∀ j, l[j]? = ops[k + 2 + j]? := fun j => by
    have := hl (j + 2)
    simpa [Nat.add_assoc, Nat.add_comm 2 j] using this
  have hB3 : Region.lexFrom md ops l.length (k + 2) (lexUp ops.size (k + 2)) = true := by
    simp only [List.length_cons, Region.lexFrom, Bool.and_eq_true] at hB
    exact hB.2.2
  refine wpAnyH_take h1 hs f1 r1 (fun c a w => lex_panic hQ _ _ c a w) (.inl ⟨hw1, hv1⟩) hS ?_
  refine wpAnyH_ready (eq_of_beq r0) (by simp) (AllReadyH.cons h0 (fun K hK => ?_) AllReadyH.nil)
  rw [if_pos hw]
  refine h K fun a w hS h' => hK.out a w hS fun hS' => ?_
  have h3 := h' hS hl3 hs hB3 hQ hS'
  rw [← eq_of_beq he] at h3
  exact h3
end
theorem nums_zero7 (w : World) : Nums w (.slice none 0 0) [] := ⟨by simp, by simp, .inl ⟨none, 0, rfl, rfl, fun _ => rfl⟩⟩
theorem within_lt6' {p : Nat} {l : List Nat} (h : M.within p l = true) : ∀ z ∈ l, z < p := fun z hz => by
  unfold M.within at h
  simpa using List.all_eq_true.1 h z hz
theorem M.TOk.getl {p n : Nat} {m : List (List Nat)} (h : M.TOk p n m) (i : Nat) : (m.getD i []).length ≤ n := by
  by_cases hi : i < n
  · exact h.rows i hi
  · rw [List.getD_eq_getElem?_getD, List.getElem?_eq_none (by have := h.len; omega)]; simp
theorem M.TOk.wlen {p n : Nat} {m : List (List Nat)} (h : M.TOk p n m) (k : Nat) : (M.wholeK p m k).length ≤ k + n := by
  have := M.wholeK_len (p := p) (L := n) (fun i => h.getl i) k
  split at this <;> omega

set_option maxHeartbeats 2000000 in
theorem rlow_any (p T x : Nat) (n0 : Int) (v : Value) (m : List (List Nat)) (w : World) (h3 : 3 ≤ p) (hp : p ≤ 65537) (hx : x < p) (hm : M.TOk p (T + 1) m) (hv : Mat w v m) :
    Calls Try.prog 28 #[suV p n0 T, v, .int .u64 x] w fun e w' => e = .returned (.int .u64 (M.pev p (m.getD 0 []) x)) ∧ Below w.heap.size w w' := by
  have hml := hv.1
  obtain ⟨A, cap, rfl, _⟩ := mat_view6 hv
  obtain ⟨b, off, rfl, hbl, hc⟩ := (mat_row hv).2 (by have := hm.len; omega)
  obtain ⟨Au, cu, ck, hnk, _⟩ := hc 0 (by have := hm.len; omega)
  have d0 := ((Below.refl w.heap.size w).alloc (Nat.le_refl _) (.cells #[.int .u64 p, .int .i64 n0, .int .i64 (T : Nat)] 24)).cell (p := ⟨b, off + 0, none⟩) hbl |>.trans ck
  rw [Nat.add_zero] at d0
  have he := reval_any p x _ (m.getD 0 []) (w.alloc (.cells #[.int .u64 p, .int .i64 n0, .int .i64 (T : Nat)] 24)).drew (by omega) hp hx (hm.lt 0 (by omega)) (hnk.below (balloc w _).drew)
  have hm0 : 0 < m.length := by have := hm.len; omega
  obtain ⟨f, ef⟩ : ∃ f, f = m.getD 0 [] := ⟨_, rfl⟩
  rw [← ef] at d0 he ⊢
  obtain ⟨L, eL⟩ : ∃ L, L = f.length := ⟨_, rfl⟩
  rw [← eL] at d0 he
  have HE := Lib.hid he
  clear hv ck hc hnk ef eL he hm
  unfold suV
  go_enter Try.func28, Try.ntmps28
  go_wp2_with fail
  go_region_held3 (fun W' => W'.cell? ⟨w.heap.size, 0, none⟩ = some (.int .u64 (p : Nat)) ∧ W'.cell? ⟨b, off, none⟩ = some (.slice Au L cu))
    (first | exact ⟨by simp, d0⟩ | exact ⟨f1, f2⟩ | go_keep)
    (first | (go_at_call 32; (with_reducible refine HE.out.mono ?_); rintro e w1 ⟨rfl, rfl⟩))
  go_wp2_with fail
  go_ret
  exact ⟨rfl, (balloc w _).drew⟩

/-- make([]uint64, k) at one operation -/
theorem wp_make6 {w : World} {o : Oper} {a : Act} {K : Act → World → Prop} {Q : Exit → Act → World → Prop} (n : Operand) (ho : o.op = .makeSlice 31 n n) {k : Nat} (hn : a.eval n = .int .i64 (k : Nat)) (hk : k ≤ 1000)
    (h : (w.alloc (.cells (madeCells #[Value.int .u64 0] k) 22)).ownsRow w.heap.size 22 1 (.slice (some ⟨w.heap.size, 0, none⟩) k k) k (List.replicate k (.int .u64 0)) → Below w.heap.size w (w.alloc (.cells (madeCells #[Value.int .u64 0] k) 22)) → K (a.put o.dst (.slice (some ⟨w.heap.size, 0, none⟩) k k)) (w.alloc (.cells (madeCells #[Value.int .u64 0] k) 22))) : o.wp Try.prog a w K Q := by
  obtain ⟨i0, hi0, hz0, hz1, hz2⟩ := info_parts infoU64
  have hrun := run_make (P := Try.prog) w 31 22 i0 (.int .u64 0) Try.underlying31 hi0 hz0 .i64 .i64 k k (by omega) (Int.le_refl _) (by rw [hz2]; omega) (by omega)
  rw [hz1] at hrun
  have hmk : (Instr.makeSlice 31 (.int .i64 (k : Nat)) (.int .i64 (k : Nat))).run Try.prog w = .ok (.slice (some ⟨w.heap.size, 0, none⟩) k k) (w.alloc (.cells (madeCells #[Value.int .u64 0] k) 22)) := by simpa [Value.cells] using hrun
  have hown : (w.alloc (.cells (madeCells #[Value.int .u64 0] k) 22)).ownsRow w.heap.size 22 1 (.slice (some ⟨w.heap.size, 0, none⟩) k k) k (List.replicate k (.int .u64 0)) := by
    refine ⟨by simp, .inr ⟨w.heap.size, k, madeCells #[.int .u64 0] k, rfl, Nat.le_refl _, World.alloc_heap_new w _, Nat.le_refl _, by unfold maxLen; omega, by rw [size_madeCells, Nat.mul_one], ?_⟩⟩
    rw [Nat.mul_one, toList_madeCells_one, List.take_replicate, Nat.min_self]
  unfold Oper.wp execOp
  simp only [ho, Sem.run_bind, Sem.run_pure, Result.andThen_ok, hn, hmk]
  exact h hown (balloc w _)

set_option maxHeartbeats 4000000 in
theorem rwhole_any (p T : Nat) (n0 : Int) (v : Value) (m : List (List Nat)) (w : World) (h3 : 3 ≤ p) (hp : p ≤ 65537) (hT : T ≤ 3) (hm : M.TOk p (T + 1) m) (hv : Mat w v m) :
    Calls Try.prog 27 #[suV p n0 T, v] w (Gives w (M.wholeK p m (T + 1))) := by
  have hud : ∀ b : Bool, undef ≠ Value.bool b := fun b h => by cases h
  have hml := hm.len
  obtain ⟨A, cap, rfl, _⟩ := mat_view6 hv
  have HM := Lib.hid (mat_row hv).2
  obtain ⟨b, off, rfl, hbl, hcells⟩ := HM.out (by omega)
  have HC := Lib.hid hcells
  have HOK := Lib.hid hm
  obtain ⟨i0, hi0, hz0, hz1, hz2⟩ := info_parts infoU64
  rw [hml] at HC ⊢
  clear hv hcells HM hm
  unfold suV
  go_enter Try.func27, Try.ntmps27
  go_wp2_with fail
  go_loopw [5, 10] (fun tv ti wr => ∃ k : Nat, k ≤ T + 1 ∧ ti = .int .i64 k ∧ Nums wr tv (M.wholeK p m k) ∧ Below (w.heap.size + 1) (w.alloc (.cells #[.int .u64 p, .int .i64 n0, .int .i64 (T : Nat)] 24)) wr) (fun _ ti _ => T + 1 - (intOf ti).toNat)
  case atStart => exact ⟨0, by omega, rfl, nums_zero7 _, Below.refl _ _⟩
  case round =>
    obtain ⟨k, hk, rfl, hN, hB⟩ := hrel
    have HB := Lib.hid hB
    obtain ⟨Ao, co, rfl⟩ := nums_slice' hN
    have HN := Lib.hid hN
    clear hN hB
    by_cases hlt : k < T + 1
    · obtain ⟨Au, cu, ck, hnk, _⟩ := HC.out k hlt
      have hbw := bnext (balloc w (.cells #[.int .u64 p, .int .i64 n0, .int .i64 (T : Nat)] 24)) (by simpa using HB.out)
      have d1 := (hbw.cell (p := ⟨b, off + k, none⟩) hbl).trans ck
      have d0 := (HB.out.cell (p := ⟨w.heap.size, 0, none⟩) (by simp)).trans (show (w.alloc (.cells #[.int .u64 p, .int .i64 n0, .int .i64 (T : Nat)] 24)).cell? ⟨w.heap.size, 0, none⟩ = some (.int .u64 (p : Nat)) by simp)
      have hfk := hnk.below hbw
      have hfl := HOK.out.getl k
      have hwf := HOK.out.lt k hlt
      have hwl := HOK.out.wlen k
      have hw0 : w.heap.size < wr.heap.size := by have := HB.out.size; simp at this; omega
      have hadd := fun W V (h1 : Nums W (.slice Ao (M.wholeK p m k).length co) (M.wholeK p m k)) (h2 : Nums W V (M.zer k (m.getD k []))) => radd_any p _ V (M.wholeK p m k) (M.zer k (m.getD k [])) W (by omega) hp (M.wholeK_within (by omega) m k) (M.zer_within (by omega) hwf k) (by omega) (by rw [M.zer_len]; omega) h1 h2
      have hz64 : ∀ z ∈ M.zer k (m.getD k []), z < 18446744073709551616 := fun z hz => by have := within_lt6' (M.zer_within (p := p) (by omega) hwf k) z hz; omega
      obtain ⟨L, eL⟩ : ∃ L, L = (m.getD k []).length := ⟨_, rfl⟩
      rw [← eL] at d1 hfk hfl
      obtain ⟨WL, eWL⟩ : ∃ WL, WL = (M.wholeK p m k).length := ⟨_, rfl⟩
      rw [← eWL] at HN hadd hwl ⊢
      have HFK := Lib.hid hfk
      have HADD := Lib.hid hadd
      have EL := Lib.hid eL
      have HZ64 := Lib.hid hz64
      have HBW := Lib.hid hbw
      have hbs := Nat.le_refl wr.heap.size
      clear ck hnk hfk hwf hadd eL eWL hz64 hbw
      go_wp2_with fail
      try dsimp only [List.append]
      have s0 : (wr.drew).cell? ⟨w.heap.size, 0, none⟩ = some (.int .u64 (p : Nat)) := d0
      refine wp_region_lex (S := fun W' => W'.cell? ⟨w.heap.size, 0, none⟩ = some (.int .u64 (p : Nat))) (by kernel_rfl) (by kernel_rfl) (fun _ _ _ _ _ h => h) d0 ?_
      repeat (first
        | (refine LexH.late1 (v1 := ?_) (by kernel_rfl) (by rfl) ?_ (by rfl) ?_; rotate_left 1; (· intro w hSw; (try dsimp only at hSw); (try simp only [Act.put, List.setIfInBounds_toArray, List.set_cons_zero, List.set_cons_succ]); go_simp; try with_reducible rfl); intro K hKK; (try simp only [Act.put, List.setIfInBounds_toArray, List.set_cons_zero, List.set_cons_succ]); (refine wp_make6 (k := k) _ rfl (by rfl) (by omega) ?_); intro hmo hmb; have s1 := (hmb.cell (p := ⟨w.heap.size, 0, none⟩) hw0).trans s0; have hB4 := below_of_drew6 hmb; refine hKK.out _ _ s1 (fun hHeld => ?_); clear hKK K hHeld; (try simp only [Act.put, List.setIfInBounds_toArray, List.set_cons_zero, List.set_cons_succ]))
        | (refine LexH.yield (v := ?_) (by rfl) ?_ ?_; rotate_left 1; (· intro w hSw; (try dsimp only at hSw); go_simp; try with_reducible rfl); (try simp only [Act.put, List.setIfInBounds_toArray, List.set_cons_zero, List.set_cons_succ]))
        | (refine LexH.alone (by rfl) (by kernel_rfl) (fun K hKK => ?_); (refine wp_append_nums6 _ _ rfl wr.heap.size _ k _ (by rfl) hmo _ (m.getD k []) (by rfl) (HFK.out.below hB4) (by rw [← EL.out]; omega) hB4.size ?_); intro v' w4 hown' hb4; have hB5 := hB4.trans hb4; have s2 := (hB5.cell (p := ⟨w.heap.size, 0, none⟩) hw0).trans d0; refine hKK.out _ _ s2 (fun hHeld => ?_); clear hKK K hHeld; (try simp only [Act.put, List.setIfInBounds_toArray, List.set_cons_zero, List.set_cons_succ]); rw [show List.replicate k (Value.int .u64 0) ++ vals (m.getD k []) = vals (M.zer k (m.getD k [])) by simp [vals, M.zer]] at hown'; have hnv := nums_of_owns hown' HZ64.out (by rw [M.zer_len, ← EL.out]; omega))
        | (refine LexH.alone (by rfl) (by kernel_rfl) (fun K hKK => ?_); go_simp; go_at_call 39; (with_reducible refine (HADD.out _ _ (HN.out.below hB5) hnv).mono ?_); rintro e w5 ⟨v5, rfl, hn5, hb5⟩; have hB6 := bnext hB5 hb5; have s3 := (hB6.cell (p := ⟨w.heap.size, 0, none⟩) hw0).trans d0; go_wp2_with fail; refine hKK.out _ _ s3 (fun hHeld => ?_); clear hKK K hHeld; (try simp only [Act.put, List.setIfInBounds_toArray, List.set_cons_zero, List.set_cons_succ]))
        | (refine LexH.alone (by rfl) (by kernel_rfl) (fun K hKK => ?_); go_simp; refine hKK.out _ _ (by first | exact s3 | go_keep) (fun hHeld => ?_); clear hKK K hHeld; (try simp only [Act.put, List.setIfInBounds_toArray, List.set_cons_zero, List.set_cons_succ])))
      refine LexH.nil ?_
      have HN5 := Lib.hid hn5
      have HB5 := Lib.hid (HB.out.trans (hB6.mono hw0))
      clear hn5 hb5 hB6 hB5 hb4 hnv hown' hmo hmb hB4 s0 s1 s2 s3
      go_wp2_with fail
      go_roundw
      case rel => exact ⟨k + 1, by omega, by go_num, HN5.out, HB5.out⟩
      case measure => simp [intOf]; omega
    · obtain rfl : k = T + 1 := by omega
      go_wp2_with fail
      go_ret
      exact ⟨_, rfl, HN.out, bnext (balloc w _) (by simpa using HB.out)⟩

set_option maxHeartbeats 2000000 in
theorem rhigh_any (p T x : Nat) (n0 : Int) (v : Value) (m : List (List Nat)) (w : World) (h3 : 3 ≤ p) (hp : p ≤ 65537) (hT : T ≤ 3) (hx : x < p) (hm : M.TOk p (T + 1) m) (hv : Mat w v m) :
    Calls Try.prog 29 #[suV p n0 T, v, .int .u64 x] w fun e w' => e = .returned (.int .u64 (M.hiK p m x (T + 1))) ∧ Below w.heap.size w w' := by
  have HWH := Lib.hid fun W (h : Mat W v m) => rwhole_any p T n0 v m W h3 hp hT hm h
  have HEV := Lib.hid fun W V (h : Nums W V (M.wholeK p m (T + 1))) => reval_any p x V _ W (by omega) hp hx (M.wholeK_within (by omega) m _) h
  have HPV := Lib.hid (M.wholeK_pev p m x (T + 1))
  obtain ⟨A, cap, rfl, _⟩ := mat_view6 hv
  have HMW := Lib.hid hv
  clear hv hm
  unfold suV at HWH ⊢
  go_enter Try.func29, Try.ntmps29
  go_wp2_with fail
  obtain ⟨w0, ew0⟩ : ∃ w0, w0 = w.alloc (.cells #[.int .u64 p, .int .i64 n0, .int .i64 (T : Nat)] 24) := ⟨_, rfl⟩
  have hB0 : Below w.heap.size w w0 := by rw [ew0]; exact balloc w _
  have hl0 : w.heap.size < w0.heap.size := by rw [ew0]; simp
  have c0 : w0.cell? ⟨w.heap.size, 0, none⟩ = some (.int .u64 (p : Nat)) := by rw [ew0]; simp
  have c1 : w0.cell? ⟨w.heap.size, 1, none⟩ = some (.int .i64 n0) := by rw [ew0]; simp
  have c2 : w0.cell? ⟨w.heap.size, 2, none⟩ = some (.int .i64 (T : Nat)) := by rw [ew0]; simp
  have HM0 := Lib.hid (HMW.out.below hB0.drew)
  rw [← ew0]
  clear ew0
  go_region_held3 (fun W' => W'.cell? ⟨w.heap.size, 0, none⟩ = some (.int .u64 (p : Nat)) ∧ W'.cell? ⟨w.heap.size, 1, none⟩ = some (.int .i64 n0) ∧ W'.cell? ⟨w.heap.size, 2, none⟩ = some (.int .i64 (T : Nat)))
    (first | exact ⟨c0, c1, c2⟩ | exact ⟨f0, f1, f2⟩ | go_keep)
    (first
      | (go_at_call 27; (with_reducible refine (HWH.out _ HM0.out).mono ?_); rintro e w1 ⟨v1, rfl, hn1, hb1⟩; have f0 := (hb1.cell (p := ⟨w.heap.size, 0, none⟩) hl0).trans c0; have f1 := (hb1.cell (p := ⟨w.heap.size, 1, none⟩) hl0).trans c1; have f2 := (hb1.cell (p := ⟨w.heap.size, 2, none⟩) hl0).trans c2)
      | (go_at_call 32; (with_reducible refine (HEV.out _ _ hn1).mono ?_); rintro e w2 ⟨rfl, rfl⟩))
  --PEEK
  have hB1 := bnext hB0 (below_of_drew6 hb1)
  go_wp2_with fail
  go_ret
  exact ⟨by rw [← HPV.out]; rfl, hB1⟩
end Go.Proofs.Ytfkepkdfpjaniaa
