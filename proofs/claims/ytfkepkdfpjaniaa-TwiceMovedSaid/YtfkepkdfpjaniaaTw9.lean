/-
  Package twice of the program: Make.
-/
import Derived.Test.YtfkepkdfpjaniaaTw12
import Derived.Test.YtfkepkdfpjaniaaTw6
import Derived.Test.YtfkepkdfpjaniaaP7r
import Derived.Test.YtfkepkdfpjaniaaTrN
import Derived.Test.YtfkepkdfpjaniaaRnR
import Derived.Test.YtfkepkdfpjaniaaLG
import Derived.Test.YtfkepkdfpjaniaaDrw6
import Derived.Test.YtfkepkdfpjaniaaCon6
import Derived.Test.YtfkepkdfpjaniaaP7m
namespace Go.Proofs.Ytfkepkdfpjaniaa.M
/-- k numbers from number x k on -/
def chunkAt (all : List Nat) (k x : Nat) : List Nat := (all.drop (x * k)).take k
theorem drop_take_tab {l : List Nat} {a n : Nat} (h : a + n ≤ l.length) : (l.drop a).take n = tabM n fun i => l.getD (a + i) 0 := by
  apply List.ext_getElem?
  intro i
  by_cases hi : i < n
  · rw [List.getElem?_take, if_pos hi, List.getElem?_drop]
    simp [tabM, hi, List.getD_eq_getElem?_getD, List.getElem?_eq_getElem (show a + i < l.length by omega)]
  · rw [List.getElem?_eq_none (by simp; omega), List.getElem?_eq_none (by simp [tabM]; omega)]
theorem mmade_chunks {p s T : Nat} (zs : List Nat) : ∀ k, k ≤ T → mmade p s T zs k = (List.range (k + 1)).map fun x => trim (chunkAt (s :: tabM (T + T * (T + 1)) fun i => zs.getD i 0 % p) (T + 1) x)
  | 0, _ => by
    show [trim (s :: tabM T fun i => zs.getD i 0 % p)] = [trim _]
    congr 2
    unfold chunkAt
    rw [Nat.zero_mul, List.drop_zero, List.take_succ_cons]
    congr 1
    unfold tabM
    rw [← List.map_take, List.take_range, Nat.min_eq_left (Nat.le_add_right _ _)]
  | k + 1, hk => by
    rw [List.range_succ, List.map_append, ← mmade_chunks zs k (by omega)]
    show mmade p s T zs k ++ [trim _] = _ ++ [trim _]
    congr 3
    have hkT : (k + 1) * (T + 1) ≤ T * (T + 1) := Nat.mul_le_mul_right _ hk
    show tabM (T + 1) _ = chunkAt _ (T + 1) (k + 1)
    unfold chunkAt
    rw [drop_take_tab (by simp [tabM]; omega)]
    unfold tabM
    refine List.map_congr_left fun i hi => ?_
    have hi := List.mem_range.1 hi
    have e : (k + 1) * (T + 1) + i = (T + k * (T + 1) + i) + 1 := by rw [Nat.add_mul]; omega
    rw [e, List.getD_cons_succ]
    have hb : T + k * (T + 1) + i < T + T * (T + 1) := by rw [Nat.add_mul] at hkT; omega
    simp [List.getD_eq_getElem?_getD, hb]
end Go.Proofs.Ytfkepkdfpjaniaa.M
namespace Go.Proofs.Ytfkepkdfpjaniaa
open Go.RowKit Go.Shelf
set_option linter.unusedVariables false
set_option maxRecDepth 100000
attribute [local go_sem] Oper.semAt_some

theorem nums_chunk {w : World} {b off len cap a n : Nat} {zs : List Nat} (h : Nums w (.slice (some ⟨b, off, none⟩) len cap) zs) (hn : a + n ≤ zs.length) : Nums w (.slice (some ⟨b, off + a, none⟩) n n) ((zs.drop a).take n) := by
  obtain ⟨h1, h2, h3⟩ := h
  have hl : ((zs.drop a).take n).length = n := by simp; omega
  refine ⟨fun x hx => h1 x (List.mem_of_mem_drop (List.mem_of_mem_take hx)), by omega, ?_⟩
  rcases h3 with ⟨A, c, e, h0, _⟩ | ⟨b', off', c, e, hc, hb, hcell⟩
  · subst h0
    have hn0 : n = 0 := by simp at hn; omega
    subst hn0
    exact .inl ⟨some ⟨b, off + a, none⟩, 0, rfl, by simp, fun _ => rfl⟩
  · simp only [Value.slice.injEq, Option.some.injEq, Addr.mk.injEq, and_true] at e
    obtain ⟨⟨rfl, rfl⟩, rfl, rfl⟩ := e
    refine .inr ⟨b, off + a, n, by rw [hl], by omega, hb, fun i hi => ?_⟩
    have := hcell (a + i) (by omega)
    rw [Nat.add_assoc, this, M.drop_take_tab hn, tab_get _ (by omega)]

theorem inRound7 {F : Fence} {n : Nat} {P : Program} {f : FuncId} {args : Array Value} {w : World} {R : Ending → World → Prop} (l : Nat) (h : CallsIn F n P f args w R) : CallsIn (F.inRound l) n P f args w R := h
/-- what a round over chunks must leave alone -/
def KC (n₀ bs : Nat) (W W' : World) : Prop := Below n₀ W W' ∧ W'.cell? ⟨bs, 0, none⟩ = W.cell? ⟨bs, 0, none⟩ ∧ W'.cell? ⟨bs + 1, 0, none⟩ = W.cell? ⟨bs + 1, 0, none⟩
theorem KC.refl (n₀ bs : Nat) (W : World) : KC n₀ bs W W := ⟨Below.refl _ _, rfl, rfl⟩
theorem KC.trans {n₀ bs : Nat} {A B C : World} (h : KC n₀ bs A B) (h2 : KC n₀ bs B C) : KC n₀ bs A C := ⟨h.1.trans h2.1, h2.2.1.trans h.2.1, h2.2.2.trans h.2.2⟩
theorem kc_b {n₀ bs : Nat} {w : World} (hn : n₀ ≤ w.heap.size) (hb : bs + 1 < w.heap.size) (W : World) (l : Nat) (o o' : Obj) (hl : w.heap.size ≤ l) (h : W.heap[l]? = some o) (h1 : o.isCells = false) (h2 : o.isWalk = false) : KC n₀ bs W (W.putObj l o') :=
  ⟨belowK_b hn W l o o' hl h h1 h2, World.cell?_of_block ((grownBy_putObj' W l o').block bs (by have := (Array.getElem?_eq_some_iff.1 h).1; omega) (fun e => by cases e; omega)), World.cell?_of_block ((grownBy_putObj' W l o').block (bs + 1) (by have := (Array.getElem?_eq_some_iff.1 h).1; omega) (fun e => by cases e; omega))⟩
/-- the rows that have come -/
def rowsOf (AL : List Nat) (n : Nat) (l : List Nat) : List (List Nat) := l.map fun x => M.trim (M.chunkAt AL n x)
theorem rowsOf_snoc (AL : List Nat) (n : Nat) (l : List Nat) (x : Nat) : rowsOf AL n (l ++ [x]) = rowsOf AL n l ++ [M.trim (M.chunkAt AL n x)] := by simp [rowsOf]

set_option maxHeartbeats 1000000 in
theorem tmake_setup (p s : Nat) (n0 t : Int) (v : Value) (zs : List Nat) (w : World) (hp : p < 18446744073709551616) (hn1 : -9223372036854775808 ≤ n0) (hn2 : n0 ≤ 9223372036854775807) (ht1 : -9223372036854775808 ≤ t) (ht2 : t ≤ 9223372036854775807) (hv : Nums w v zs) (hok : M.okS p n0 t = false) :
    Calls Try.prog 17 #[suV p n0 t, .int .u64 s, v] w fun e w' => e = .returned (.tuple #[.slice none 0 0, .slice none 0 0, .int .i64 2]) ∧ Below w.heap.size w w' := by
  have hs := fun W => setup_any p n0 t W hp hn1 hn2 ht1 ht2
  rw [show M.errS p n0 t = 2 by unfold M.errS; rw [hok]; rfl] at hs
  have HS := Lib.hid hs
  obtain ⟨A, cap, rfl⟩ := nums_slice' hv
  clear hs hv hok
  unfold suV at HS ⊢
  go_enter Try.func17, Try.ntmps17
  go_wp2_with fail
  refine (HS.out _).mono ?_
  rintro e w1 ⟨rfl, hb1⟩
  obtain ⟨W0, eW0⟩ : ∃ W0, W0 = (((w.alloc (.cells #[.int .u64 p, .int .i64 n0, .int .i64 t] 24)).alloc (.cells #[.slice none 0 0] 25)).alloc (.cells #[.slice none 0 0] 31)).alloc (.cells #[.int .i64 0] 26) := ⟨_, rfl⟩
  rw [← eW0] at hb1
  have hB0 : Below w.heap.size w W0 := by rw [eW0]; exact ((((Below.refl _ _).alloc (Nat.le_refl _) _).alloc (by simp) _).alloc (by simp; omega) _).alloc (by simp; omega) _
  have hs0 : W0.heap.size = w.heap.size + 4 := by rw [eW0]; simp
  have r1 : Boxed W0 (w.heap.size + 1) 25 (.slice none 0 0) := by
    rw [eW0]; have := ((Boxed.new (w.alloc (.cells #[.int .u64 p, .int .i64 n0, .int .i64 t] 24)) 25 (.slice none 0 0)).alloc (.cells #[.slice none 0 0] 31)).alloc (.cells #[.int .i64 0] 26); simpa using this
  have r2 : Boxed W0 (w.heap.size + 1 + 1) 31 (.slice none 0 0) := by
    rw [eW0]; have := (Boxed.new ((w.alloc (.cells #[.int .u64 p, .int .i64 n0, .int .i64 t] 24)).alloc (.cells #[.slice none 0 0] 25)) 31 (.slice none 0 0)).alloc (.cells #[.int .i64 0] 26); simpa using this
  have r3 : Boxed W0 (w.heap.size + 1 + 1 + 1) 26 (.int .i64 0) := by
    rw [eW0]; have := Boxed.new (((w.alloc (.cells #[.int .u64 p, .int .i64 n0, .int .i64 t] 24)).alloc (.cells #[.slice none 0 0] 25)).alloc (.cells #[.slice none 0 0] 31)) 26 (.int .i64 0); simpa using this
  have s1 := boxBelow r1 hb1 (by omega)
  have s2 := boxBelow r2 hb1 (by omega)
  have s3 := boxBelow r3 hb1 (by omega)
  have c1 := s1.cell
  have c2 := s2.cell
  have c3 := s3.cell
  have f1 := s1.frozen
  have f2 := s2.frozen
  have f3 := s3.frozen
  have S1 := Lib.hid s1
  have S2 := Lib.hid s2
  have S3 := Lib.hid s3
  have B1 := Lib.hid (bnext hB0 hb1)
  clear hb1 hB0 r1 r2 r3 s1 s2 s3 eW0 hs0
  go_wp2_with fail
  have g1 := (boxOther (boxOther (S1.out.set (.slice none 0 0)) (by omega) (.slice none 0 0)) (by omega) (.int .i64 2) : Boxed (((w1.setCell ⟨w.heap.size + 1, 0, none⟩ (.slice none 0 0)).setCell ⟨w.heap.size + 1 + 1, 0, none⟩ (.slice none 0 0)).setCell ⟨w.heap.size + 1 + 1 + 1, 0, none⟩ (.int .i64 2)) _ _ _).cell
  have g2 := (boxOther ((boxOther S2.out (by omega) (.slice none 0 0)).set (.slice none 0 0)) (by omega) (.int .i64 2) : Boxed (((w1.setCell ⟨w.heap.size + 1, 0, none⟩ (.slice none 0 0)).setCell ⟨w.heap.size + 1 + 1, 0, none⟩ (.slice none 0 0)).setCell ⟨w.heap.size + 1 + 1 + 1, 0, none⟩ (.int .i64 2)) _ _ _).cell
  have g3 := ((boxOther (boxOther S3.out (by omega) (.slice none 0 0)) (by omega) (.slice none 0 0)).set (.int .i64 2) : Boxed (((w1.setCell ⟨w.heap.size + 1, 0, none⟩ (.slice none 0 0)).setCell ⟨w.heap.size + 1 + 1, 0, none⟩ (.slice none 0 0)).setCell ⟨w.heap.size + 1 + 1 + 1, 0, none⟩ (.int .i64 2)) _ _ _).cell
  have hbd := ((B1.out.setCell (p := ⟨w.heap.size + 1, 0, none⟩) (by simp) (.slice none 0 0)).setCell (p := ⟨w.heap.size + 1 + 1, 0, none⟩) (by simp; omega) (.slice none 0 0)).setCell (p := ⟨w.heap.size + 1 + 1 + 1, 0, none⟩) (by simp; omega) (.int .i64 2)
  refine bodyPost_ret (v := .tuple #[.slice none 0 0, .slice none 0 0, .int .i64 2]) ?_ rfl ⟨rfl, hbd⟩
  simp [results, Try.f17, go_sem, g1, g2, g3]
set_option maxHeartbeats 1000000 in
theorem tmake_arg (p s : Nat) (n0 t : Int) (v : Value) (zs : List Nat) (w : World) (hp : p < 18446744073709551616) (hn1 : -9223372036854775808 ≤ n0) (hn2 : n0 ≤ 9223372036854775807) (ht1 : -9223372036854775808 ≤ t) (ht2 : t ≤ 9223372036854775807) (hv : Nums w v zs) (hok : M.okS p n0 t = true) (hs64 : s < 18446744073709551616) (hsp : p ≤ s) :
    Calls Try.prog 17 #[suV p n0 t, .int .u64 s, v] w fun e w' => e = .returned (.tuple #[.slice none 0 0, .slice none 0 0, .int .i64 2]) ∧ Below w.heap.size w w' := by
  have hs := fun W => setup_any p n0 t W hp hn1 hn2 ht1 ht2
  rw [show M.errS p n0 t = 0 by unfold M.errS; rw [hok]; rfl] at hs
  have HS := Lib.hid hs
  obtain ⟨A, cap, rfl⟩ := nums_slice' hv
  have hd : decide ((s : Int) ≥ (p : Int)) = true := by rw [decide_eq_true_eq]; omega
  clear hs hv hok
  unfold suV at HS ⊢
  go_enter Try.func17, Try.ntmps17
  go_wp2_with fail
  refine (HS.out _).mono ?_
  rintro e w1 ⟨rfl, hb1⟩
  obtain ⟨W0, eW0⟩ : ∃ W0, W0 = (((w.alloc (.cells #[.int .u64 p, .int .i64 n0, .int .i64 t] 24)).alloc (.cells #[.slice none 0 0] 25)).alloc (.cells #[.slice none 0 0] 31)).alloc (.cells #[.int .i64 0] 26) := ⟨_, rfl⟩
  rw [← eW0] at hb1
  have hB0 : Below w.heap.size w W0 := by rw [eW0]; exact ((((Below.refl _ _).alloc (Nat.le_refl _) _).alloc (by simp) _).alloc (by simp; omega) _).alloc (by simp; omega) _
  have hs0 : W0.heap.size = w.heap.size + 4 := by rw [eW0]; simp
  have hB01 : Below (w.alloc (.cells #[.int .u64 p, .int .i64 n0, .int .i64 t] 24)).heap.size (w.alloc (.cells #[.int .u64 p, .int .i64 n0, .int .i64 t] 24)) W0 := by rw [eW0]; exact (((Below.refl _ _).alloc (Nat.le_refl _) _).alloc (by simp) _).alloc (by simp <;> omega) _
  have r0 : W0.cell? ⟨w.heap.size, 0, none⟩ = some (.int .u64 (p : Nat)) := (hB01.cell (p := ⟨w.heap.size, 0, none⟩) (by simp)).trans (by simp)
  have r1 : Boxed W0 (w.heap.size + 1) 25 (.slice none 0 0) := by
    rw [eW0]; have := ((Boxed.new (w.alloc (.cells #[.int .u64 p, .int .i64 n0, .int .i64 t] 24)) 25 (.slice none 0 0)).alloc (.cells #[.slice none 0 0] 31)).alloc (.cells #[.int .i64 0] 26); simpa using this
  have r2 : Boxed W0 (w.heap.size + 1 + 1) 31 (.slice none 0 0) := by
    rw [eW0]; have := (Boxed.new ((w.alloc (.cells #[.int .u64 p, .int .i64 n0, .int .i64 t] 24)).alloc (.cells #[.slice none 0 0] 25)) 31 (.slice none 0 0)).alloc (.cells #[.int .i64 0] 26); simpa using this
  have r3 : Boxed W0 (w.heap.size + 1 + 1 + 1) 26 (.int .i64 0) := by
    rw [eW0]; have := Boxed.new (((w.alloc (.cells #[.int .u64 p, .int .i64 n0, .int .i64 t] 24)).alloc (.cells #[.slice none 0 0] 25)).alloc (.cells #[.slice none 0 0] 31)) 26 (.int .i64 0); simpa using this
  have s1 := boxBelow r1 hb1 (by omega)
  have s2 := boxBelow r2 hb1 (by omega)
  have s3 := boxBelow r3 hb1 (by omega)
  have c1 := s1.cell
  have c2 := s2.cell
  have c3 := s3.cell
  have f1 := s1.frozen
  have f2 := s2.frozen
  have f3 := s3.frozen
  have S1 := Lib.hid s1
  have S2 := Lib.hid s2
  have S3 := Lib.hid s3
  have B1 := Lib.hid (bnext hB0 hb1)
  have c0 := (hb1.cell (p := ⟨w.heap.size, 0, none⟩) (by dsimp only; omega)).trans r0
  clear hb1 hB0 hB01 r0 r1 r2 r3 s1 s2 s3 eW0 hs0
  go_wp2_with fail
  have g1 := (boxOther (boxOther (S1.out.set (.slice none 0 0)) (by omega) (.slice none 0 0)) (by omega) (.int .i64 2) : Boxed (((w1.setCell ⟨w.heap.size + 1, 0, none⟩ (.slice none 0 0)).setCell ⟨w.heap.size + 1 + 1, 0, none⟩ (.slice none 0 0)).setCell ⟨w.heap.size + 1 + 1 + 1, 0, none⟩ (.int .i64 2)) _ _ _).cell
  have g2 := (boxOther ((boxOther S2.out (by omega) (.slice none 0 0)).set (.slice none 0 0)) (by omega) (.int .i64 2) : Boxed (((w1.setCell ⟨w.heap.size + 1, 0, none⟩ (.slice none 0 0)).setCell ⟨w.heap.size + 1 + 1, 0, none⟩ (.slice none 0 0)).setCell ⟨w.heap.size + 1 + 1 + 1, 0, none⟩ (.int .i64 2)) _ _ _).cell
  have g3 := ((boxOther (boxOther S3.out (by omega) (.slice none 0 0)) (by omega) (.slice none 0 0)).set (.int .i64 2) : Boxed (((w1.setCell ⟨w.heap.size + 1, 0, none⟩ (.slice none 0 0)).setCell ⟨w.heap.size + 1 + 1, 0, none⟩ (.slice none 0 0)).setCell ⟨w.heap.size + 1 + 1 + 1, 0, none⟩ (.int .i64 2)) _ _ _).cell
  have hbd := ((B1.out.setCell (p := ⟨w.heap.size + 1, 0, none⟩) (by simp) (.slice none 0 0)).setCell (p := ⟨w.heap.size + 1 + 1, 0, none⟩) (by simp; omega) (.slice none 0 0)).setCell (p := ⟨w.heap.size + 1 + 1 + 1, 0, none⟩) (by simp; omega) (.int .i64 2)
  refine bodyPost_ret (v := .tuple #[.slice none 0 0, .slice none 0 0, .int .i64 2]) ?_ rfl ⟨rfl, hbd⟩
  simp [results, Try.f17, go_sem, g1, g2, g3]

set_option maxHeartbeats 4000000 in
theorem tmake_any (p s T : Nat) (n0 : Int) (v : Value) (zs : List Nat) (w : World) (hn1 : -9223372036854775808 ≤ n0) (hn2 : n0 ≤ 9223372036854775807) (hv : Nums w v zs) (hok : M.okS p n0 T = true) (hsp : s < p) :
    Calls Try.prog 17 #[suV p n0 T, .int .u64 s, v] w fun e w' => ∃ v1 v2, e = .returned (.tuple #[v1, v2, .int .i64 0]) ∧ Mat w' v1 (M.mmade p s T zs T) ∧ Nums w' v2 (zs.drop (T + T * (T + 1))) ∧ Below w.heap.size w w' := by
  obtain ⟨N, T', rfl, eT, hi, hN1, hN2, hNT, hNp⟩ := M.okS_nat hok
  obtain rfl : T = T' := by omega
  clear eT
  have hT : T ≤ 3 := by omega
  obtain ⟨h3, hp5⟩ := M.pos_of hi
  have hs := fun W => setup_any p N T W (by omega) hn1 hn2 (by omega) (by omega)
  rw [show M.errS p N T = 0 by unfold M.errS; rw [hok]; rfl] at hs
  have HS := Lib.hid hs
  have hTT : T * (T + 1) ≤ 12 := by
    have : T * (T + 1) ≤ 3 * 4 := Nat.mul_le_mul hT (by omega)
    omega
  have HSZ := Lib.hid fun (w : World) => tsize_any T w (by omega) (by omega)
  have hts : M.tsize T = ((T + T * (T + 1) : Nat) : Int) := by
    unfold M.tsize; rw [if_neg (by omega), Int.natCast_add, Int.natCast_mul, Int.natCast_add]; rfl
  rw [hts] at HSZ
  have HDR := Lib.hid fun W (h : Below w.heap.size w W) => draw_any p (T + T * (T + 1)) v zs W hi (by omega) (hv.below h)
  have HMM := Lib.hid (M.mmade_chunks (p := p) (s := s) zs T (Nat.le_refl T))
  have hsq : T + T * (T + 1) + 1 = (T + 1) * (T + 1) := by rw [Nat.add_mul (T) 1 (T + 1)]; omega
  obtain ⟨S, eS⟩ : ∃ S, S = T + T * (T + 1) := ⟨_, rfl⟩
  rw [← eS] at HSZ HDR HMM hsq ⊢
  obtain ⟨A, cap, rfl⟩ := nums_slice' hv
  have hd : decide ((s : Int) ≥ (p : Int)) = false := by rw [decide_eq_false_iff_not]; omega
  obtain ⟨n, en⟩ : ∃ n, n = T + 1 := ⟨_, rfl⟩
  have hw1 : IntKind.i64.wrap ((T : Int) + 1) = (n : Nat) := by rw [IntKind.wrap_i64]; omega
  have hn1' : 1 ≤ n := by omega
  have hn4' : n ≤ 4 := by omega
  have HI := Lib.hid hi
  have HSQ := Lib.hid (show S + 1 = n * n by rw [en]; exact hsq)
  have hS15 : S ≤ 15 := by omega
  unfold Drew at HDR
  obtain ⟨ds, eds⟩ : ∃ ds, ds = (List.range S).map fun i => zs.getD i 0 % p := ⟨_, rfl⟩
  rw [← eds] at HDR
  rw [show (M.tabM S fun i => zs.getD i 0 % p) = ds from eds.symm] at HMM
  have hdl : ds.length = S := by rw [eds]; simp
  have HWD := Lib.hid (show ds.all (fun x => decide (x < p)) = true by rw [eds, List.all_eq_true]; intro z hz; obtain ⟨i, _, rfl⟩ := List.mem_map.1 hz; simpa using Nat.mod_lt _ (show 0 < p by omega))
  have HDL := Lib.hid hdl
  obtain ⟨rs, ers⟩ : ∃ rs, rs = zs.drop S := ⟨_, rfl⟩
  rw [← ers] at HDR ⊢
  rw [← en] at HMM
  have EN := Lib.hid en
  clear hs hv hok hi hts hsq eS eds hdl ers en
  unfold suV at HS ⊢
  refine (callsIn_wide (n := 8)).1 ?_
  refine callsIn_of_wp_marks Try.func17 rfl trivial ?_ rfl
  simp only [Try.ntmps17, List.size_toArray, List.length_cons, List.length_nil, Nat.reduceAdd, Nat.reduceSub, Array.replicate_succ, Array.replicate_zero, List.push_toArray, List.append_toArray, List.nil_append, List.cons_append]
  gi_wp2_with fail
  refine ⟨trivial, (callsIn_wide.2 (HS.out _)).mono ?_⟩
  rintro e w1 ⟨rfl, hb1⟩
  obtain ⟨W0, eW0⟩ : ∃ W0, W0 = (((w.alloc (.cells #[.int .u64 p, .int .i64 (N : Nat), .int .i64 (T : Nat)] 24)).alloc (.cells #[.slice none 0 0] 25)).alloc (.cells #[.slice none 0 0] 31)).alloc (.cells #[.int .i64 0] 26) := ⟨_, rfl⟩
  rw [← eW0] at hb1
  have hB0 : Below w.heap.size w W0 := by rw [eW0]; exact ((((Below.refl _ _).alloc (Nat.le_refl _) _).alloc (by simp) _).alloc (by simp; omega) _).alloc (by simp; omega) _
  have hs0 : W0.heap.size = w.heap.size + 4 := by rw [eW0]; simp
  have hB01 : Below (w.alloc (.cells #[.int .u64 p, .int .i64 (N : Nat), .int .i64 (T : Nat)] 24)).heap.size (w.alloc (.cells #[.int .u64 p, .int .i64 (N : Nat), .int .i64 (T : Nat)] 24)) W0 := by rw [eW0]; exact (((Below.refl _ _).alloc (Nat.le_refl _) _).alloc (by simp) _).alloc (by simp <;> omega) _
  have r0 : W0.cell? ⟨w.heap.size, 0, none⟩ = some (.int .u64 (p : Nat)) := (hB01.cell (p := ⟨w.heap.size, 0, none⟩) (by simp)).trans (by simp)
  have rt : W0.cell? ⟨w.heap.size, 2, none⟩ = some (.int .i64 (T : Nat)) := (hB01.cell (p := ⟨w.heap.size, 2, none⟩) (by simp)).trans (by simp)
  have r1 : Boxed W0 (w.heap.size + 1) 25 (.slice none 0 0) := by
    rw [eW0]; have := ((Boxed.new (w.alloc (.cells #[.int .u64 p, .int .i64 (N : Nat), .int .i64 (T : Nat)] 24)) 25 (.slice none 0 0)).alloc (.cells #[.slice none 0 0] 31)).alloc (.cells #[.int .i64 0] 26); simpa using this
  have r2 : Boxed W0 (w.heap.size + 1 + 1) 31 (.slice none 0 0) := by
    rw [eW0]; have := (Boxed.new ((w.alloc (.cells #[.int .u64 p, .int .i64 (N : Nat), .int .i64 (T : Nat)] 24)).alloc (.cells #[.slice none 0 0] 25)) 31 (.slice none 0 0)).alloc (.cells #[.int .i64 0] 26); simpa using this
  have r3 : Boxed W0 (w.heap.size + 1 + 1 + 1) 26 (.int .i64 0) := by
    rw [eW0]; have := Boxed.new (((w.alloc (.cells #[.int .u64 p, .int .i64 (N : Nat), .int .i64 (T : Nat)] 24)).alloc (.cells #[.slice none 0 0] 25)).alloc (.cells #[.slice none 0 0] 31)) 26 (.int .i64 0); simpa using this
  have hz1 : w.heap.size + 4 ≤ w1.heap.size := by have := hb1.size; omega
  have c0 := (hb1.cell (p := ⟨w.heap.size, 0, none⟩) (by dsimp only; omega)).trans r0
  have c2 := (hb1.cell (p := ⟨w.heap.size, 2, none⟩) (by dsimp only; omega)).trans rt
  have S1 := Lib.hid (boxBelow r1 hb1 (by omega))
  have S2 := Lib.hid (boxBelow r2 hb1 (by omega))
  have S3 := Lib.hid (boxBelow r3 hb1 (by omega))
  have hB1 := bnext hB0 hb1
  have B1 := Lib.hid hB1
  have HD1 := Lib.hid (HDR.out _ hB1.drew)
  clear hb1 hB0 hB01 r0 rt r1 r2 r3 eW0 hs0 W0 hB1
  gi_wp2_with fail
  refine wpIn_wide.2 ?_
  go_region_held3 (fun W' => W'.cell? ⟨w.heap.size, 0, none⟩ = some (.int .u64 (p : Nat)) ∧ W'.cell? ⟨w.heap.size, 2, none⟩ = some (.int .i64 (T : Nat)))
    (first | exact ⟨c0, c2⟩ | exact ⟨f1, f2⟩ | go_keep)
    (first
      | (go_at_call 14; (with_reducible refine (HSZ.out _).mono ?_); rintro e w2 ⟨rfl, rfl⟩)
      | (go_at_call 51; (with_reducible refine HD1.out.mono ?_); rintro e w2 ⟨v1, v2, rfl, hn1, hn2, hb2⟩; have f1 := (hb2.cell (p := ⟨w.heap.size, 0, none⟩) (show w.heap.size < w1.heap.size by omega)).trans c0; have f2 := (hb2.cell (p := ⟨w.heap.size, 2, none⟩) (show w.heap.size < w1.heap.size by omega)).trans c2))
  have hb2' := below_of_drew6 hb2
  have hz2 : w.heap.size + 4 ≤ w2.heap.size := by have := hb2'.size; omega
  have Q1 := Lib.hid (boxBelow S1.out hb2' (by omega))
  have Q2 := Lib.hid (boxBelow S2.out hb2' (by omega))
  have Q3 := Lib.hid (boxBelow S3.out hb2' (by omega))
  have B2 := Lib.hid (bnext B1.out hb2')
  have N1 := Lib.hid hn1
  have N2 := Lib.hid hn2
  obtain ⟨A1, k1, rfl⟩ := nums_slice' hn1
  obtain ⟨A2, k2, rfl⟩ := nums_slice' hn2
  rw [HDL.out] at N1 ⊢
  obtain ⟨RL, eRL⟩ : ∃ RL, RL = rs.length := ⟨_, rfl⟩
  rw [← eRL] at N2 ⊢
  clear hb2 hb2' hn1 hn2 S1 S2 S3 B1 HD1 c0 c2 eRL
  gi_wp2_with fail
  obtain ⟨W3, eW3⟩ : ∃ W3, W3 = w2.alloc (.cells #[.slice none 0 0] 25) := ⟨_, rfl⟩
  have hb3 : Below w2.heap.size w2 W3 := by rw [eW3]; exact balloc w2 _
  have hz3 : W3.heap.size = w2.heap.size + 1 := by rw [eW3]; simp
  have hlb : Boxed W3 w2.heap.size 25 (.slice none 0 0) := by rw [eW3]; exact Boxed.new w2 _ _
  rw [← eW3]
  have R1 := Lib.hid (boxBelow Q1.out hb3 (by omega))
  have R2 := Lib.hid (boxBelow Q2.out hb3 (by omega))
  have R3 := Lib.hid (boxBelow Q3.out hb3 (by omega))
  have RLB := Lib.hid hlb
  have g0 : W3.cell? ⟨w.heap.size, 0, none⟩ = some (.int .u64 (p : Nat)) := (hb3.cell (p := ⟨w.heap.size, 0, none⟩) (by dsimp only; omega)).trans f1
  have g2 : W3.cell? ⟨w.heap.size, 2, none⟩ = some (.int .i64 (T : Nat)) := (hb3.cell (p := ⟨w.heap.size, 2, none⟩) (by dsimp only; omega)).trans f2
  have B3 := Lib.hid (bnext B2.out hb3)
  have M1 := Lib.hid (N1.out.below hb3)
  have M2 := Lib.hid (N2.out.below hb3)
  obtain ⟨lb, elb⟩ : ∃ lb, lb = w2.heap.size := ⟨_, rfl⟩
  rw [← elb] at RLB hz3 hz2
  simp only [← elb]
  clear eW3 hb3 hlb f1 f2 Q1 Q2 Q3 N1 N2 B2 elb
  have hS1 := nums1 W3 s (by omega)
  obtain ⟨w4, ew4⟩ : ∃ w4, w4 = W3.alloc (.cells #[.int .u64 (s : Nat)] 22) := ⟨_, rfl⟩
  have b34 : Below W3.heap.size W3 w4 := by rw [ew4]; exact balloc W3 _
  rw [← ew4] at hS1
  have hb4 : Below W3.heap.size W3 (w4.alloc (.cells #[.slice (some ⟨W3.heap.size, 0, none⟩) 1 1, .slice A1 S k1] 31)).drew := (bnext b34 (balloc w4 _)).drew
  have HCO := Lib.hid (concat_any w4.heap.size _ _ [s] ds (w4.alloc (.cells #[.slice (some ⟨W3.heap.size, 0, none⟩) 1 1, .slice A1 S k1] 31)).drew (by simp) (by simp [HDL.out]; omega) (hS1.below (balloc w4 _).drew) (by rw [← HDL.out]; rw [← HDL.out] at M1; exact (M1.out.below b34).below (balloc w4 _).drew) (heap_alloc_new w4 _))
  obtain ⟨AL, eAL⟩ : ∃ AL, AL = [s] ++ ds := ⟨_, rfl⟩
  obtain ⟨LL, eLL⟩ : ∃ LL, LL = n * n := ⟨_, rfl⟩
  have hAL : AL.length = LL := by rw [eAL, eLL, ← HSQ.out]; simp [HDL.out]
  have hLL : 0 < LL := by have := HSQ.out; omega
  rw [← eAL] at HCO
  have HWA := Lib.hid (show M.within p AL = true by rw [eAL]; unfold M.within; rw [List.all_append, Bool.and_eq_true]; exact ⟨by simp; omega, HWD.out⟩)
  have EAL := Lib.hid eAL
  have ELL := Lib.hid eLL
  have HAL := Lib.hid hAL
  have hs4 : w4.heap.size = W3.heap.size + 1 := by rw [ew4]; simp
  rw [hs4] at HCO
  rw [ew4] at HCO hb4
  have BB3 := Lib.hid hb4
  have HZ3 := Lib.hid hz3
  have HCH := Lib.hid fun a len cap W => (callsIn_wide (n := 8)).1 (chunk_in Fence.wide 8 trivial rfl a len cap n hn1' W)
  have hzw : w.heap.size < W3.heap.size := by omega
  clear hS1 b34 ew4 hs4 w4 hb4 hz3 eAL eLL hAL
  refine wpIn_wide.2 ?_
  go_region_held3 (fun W' => W'.cell? ⟨w.heap.size, 2, none⟩ = some (.int .i64 (T : Nat)))
    (first | exact g2 | exact h1 | exact h2 | go_keep)
    (first
      | (go_at_call 53; (with_reducible refine HCO.out.mono ?_); rintro e w5 ⟨v5, rfl, hn5, hb5⟩; obtain ⟨A5, k5, rfl, hcap5, _, hC5⟩ := nums_view hn5; obtain ⟨b5, o5, rfl, hbl5, _⟩ := hC5 (by rw [HAL.out]; exact hLL); rw [HAL.out] at hn5 hcap5; rw [HAL.out]; have hb5' := bnext BB3.out hb5; have h1 := (hb5'.cell (p := ⟨w.heap.size, 2, none⟩) hzw).trans g2)
      | (go_at_call 52; (with_reducible refine (HCH.out _ _ _ _).mono ?_); rintro e w6 ⟨rfl, rfl⟩; have hb6' := hb5'.trans (((balloc w5 (.cells #[.slice (some ⟨b5, o5, none⟩) LL k5] 31)).trans ((balloc _ (.cells #[.int .i64 (n : Nat)] 3)).mono (by simp))).mono hb5'.size); have h2 := (hb6'.cell (p := ⟨w.heap.size, 2, none⟩) hzw).trans g2))
  obtain ⟨W6, eW6⟩ : ∃ W6, W6 = (w5.alloc (.cells #[.slice (some ⟨b5, o5, none⟩) LL k5] 31)).alloc (.cells #[.int .i64 (n : Nat)] 3) := ⟨_, rfl⟩
  have hz6 : W6.heap.size = w5.heap.size + 2 := by rw [eW6]; simp
  have bS := (Boxed.new w5 31 (.slice (some ⟨b5, o5, none⟩) LL k5)).alloc (.cells #[.int .i64 (n : Nat)] 3)
  have bN := Boxed.new (w5.alloc (.cells #[.slice (some ⟨b5, o5, none⟩) LL k5] 31)) 3 (.int .i64 (n : Nat))
  simp only [World.size_alloc] at bN
  have b56 : Below w5.heap.size w5 W6 := by rw [eW6]; exact (balloc w5 _).trans ((balloc _ _).mono (by simp))
  rw [← eW6] at bS bN hb6'
  simp only [← eW6]
  have hz5 : W3.heap.size ≤ w5.heap.size := hb5'.size
  have hzl := HZ3.out
  have NAL := Lib.hid (hn5.below b56)
  have U1 := boxBelow R1.out hb6' (by omega)
  have U2 := boxBelow R2.out hb6' (by omega)
  have U3 := boxBelow R3.out hb6' (by omega)
  have UL := boxBelow RLB.out hb6' (by omega)
  have u0 : W6.cell? ⟨w.heap.size, 0, none⟩ = some (.int .u64 (p : Nat)) := (hb6'.cell (p := ⟨w.heap.size, 0, none⟩) hzw).trans g0
  have BW6 := Lib.hid (bnext B3.out hb6')
  have NRS := Lib.hid (M2.out.below hb6')
  obtain ⟨bs, ebs⟩ : ∃ bs, bs = w5.heap.size := ⟨_, rfl⟩
  rw [← ebs] at hz6 bS bN hz5
  simp only [← ebs]
  have hlb : w.heap.size + 4 ≤ lb := hz2
  have hlbs : lb + 1 ≤ bs := by omega
  clear eW6 hb6' hb5 hb5' b56 R1 R2 R3 RLB g0 g2 B3 M1 M2 HCO HCH BB3 h1 h2 ebs hn5 HZ3 hzl
  gi_wp2
  have hrd : ∀ W W', Below W6.heap.size W6 W → KC w.heap.size bs W W' → W'.cell? ⟨bs, 0, none⟩ = some (.slice (some ⟨b5, o5, none⟩) (n * n) k5) ∧ W'.cell? ⟨bs + 1, 0, none⟩ = some (.int .i64 n) := by
    intro W W' h1 h2
    rw [← ELL.out]
    exact ⟨h2.2.1.trans ((h1.cell (p := ⟨bs, 0, none⟩) (by dsimp only; omega)).trans bS.cell), h2.2.2.trans ((h1.cell (p := ⟨bs + 1, 0, none⟩) (by dsimp only; omega)).trans bN.cell)⟩
  have hlen1 : LL ≤ 16 := by
    rw [ELL.out]
    have : n * n ≤ 4 * 4 := Nat.mul_le_mul hn4' hn4'
    omega
  refine wpIn_rangeFunc_ownG rfl (by decide) (gf := 82) (lb := #[.pointer (some ⟨bs, 0, none⟩), .pointer (some ⟨bs + 1, 0, none⟩)]) rfl trivial (enters_of Try.func82 (by kernel_rfl) rfl)
    (chunk_stops _ bs (bs + 1) b5 o5 n n k5 hn1' (by omega) (by omega) (by rw [← ELL.out]; exact hcap5) (KC w.heap.size bs) (KC.refl _ _) KC.trans (fun W W' h => ⟨h.1.drew, h.2⟩) W6 hrd) KC.trans (kc_b (by omega) (by omega)) (Below.refl _ _) (fun _ => rfl)
    (fun pre W => (∃ tv : Value, RowsN W (bs + 2) tv (rowsOf AL n (chs pre)) ∧ bs + 2 ≤ W.heap.size ∧ Nums W (.slice (some ⟨b5, o5, none⟩) LL k5) AL ∧ Nums W (.slice A2 RL k2) rs ∧ W.cell? ⟨w.heap.size, 0, none⟩ = some (.int .u64 (p : Nat)) ∧
        Boxed W (w.heap.size + 1) 25 (.slice none 0 0) ∧ Boxed W (w.heap.size + 1 + 1) 31 (.slice none 0 0) ∧ Boxed W (w.heap.size + 1 + 1 + 1) 26 (.int .i64 0) ∧ Boxed W lb 25 tv) ∧ Below w.heap.size w W)
    (fun _ _ _ => False)
    (OwnFrom.and (Own.from (fun s A B row hs hg hr => by obtain ⟨tv, g1, g2, g3, g4, g5, g6, g7, g8, g9⟩ := hs; exact ⟨tv, g1.turn hg hr, Nat.le_trans g2 hg.size, numsTurn7 g3 hg hr, numsTurn7 g4 hg hr, cell_kept g5 hg hr, boxTurn g6 hg hr, boxTurn g7 hg hr, boxTurn g8 hg hr, boxTurn g9 hg hr⟩) _) (ownFrom_below (Nat.le_refl _) (by omega)))
    (fun _ _ _ _ _ hs _ _ => hs)
    ⟨⟨.slice none 0 0, RowsN.start _ _, by omega, NAL.out, NRS.out, u0, U1, U2, U3, UL⟩, BW6.out⟩
    (fun y => { tmps := #[.agg #[.int .u64 p, .int .i64 N, .int .i64 T], .int .u64 s, .slice A zs.length cap, .pointer (some ⟨w.heap.size, 0, none⟩), undef, undef, .pointer (some ⟨w.heap.size + 1, 0, none⟩), .pointer (some ⟨w.heap.size + 1 + 1, 0, none⟩),
      .pointer (some ⟨w.heap.size + 1 + 1 + 1, 0, none⟩), .int .i64 0, .slice A1 S k1, .slice A2 RL k2, .int .i64 0, .pointer (some ⟨lb, 0, none⟩), .slice (some ⟨b5, o5 + y.1 * n, none⟩) n n, undef, undef,
      .agg #[.int .u64 p, .int .i64 N, .int .i64 T], .int .i64 0, .int .i64 0, .bool false, undef, .int .u64 s, .pointer (some ⟨w.heap.size, 0, none⟩), .int .u64 p, .bool false,
      .tuple #[.slice A1 S k1, .slice A2 RL k2, .int .i64 0], .pointer (some ⟨w.heap.size, 0, none⟩), .int .u64 p, .slice A zs.length cap, .pointer (some ⟨w.heap.size, 2, none⟩), .int .i64 T, .int .i64 S,
      .tuple #[.slice A1 S k1, .slice A2 RL k2, .int .i64 0], .slice A1 S k1, .slice A2 RL k2, .int .i64 0, .int .i64 0, .bool false, undef, .int .u64 s, .slice (some ⟨W3.heap.size, 0, none⟩) 1 1, .slice A1 S k1,
      .slice (some ⟨W3.heap.size + 1, 0, none⟩) 2 2, .slice (some ⟨b5, o5, none⟩) LL k5, .pointer (some ⟨w.heap.size, 2, none⟩), .int .i64 T, .int .i64 n, .func (.func 82) #[] #[.pointer (some ⟨bs, 0, none⟩), .pointer (some ⟨bs + 1, 0, none⟩)],
      .slice (some ⟨b5, o5 + y.1 * n, none⟩) n n, undef, undef, undef, undef, undef, undef, undef, undef, undef, undef, undef, undef, undef, undef, undef, undef], defers := [] }) ?assign ?body ?done ?stop
  case assign =>
    intro l y W K hK
    gi_wp2
    exact hK
  case stop =>
    rintro D c pre W _ _ h _
    exact h.elim
  case body =>
    rintro l pre y W ⟨⟨tv, hR, hsz, hNA, hNR, hp0, b1, b2, b3, bl⟩, hB⟩ hlen
    have hy1 := y.2
    obtain ⟨x, ex⟩ : ∃ x, x = y.1 := ⟨_, rfl⟩
    have hxl : x * n + n ≤ AL.length := by
      rw [HAL.out, ELL.out, ex]
      have : (y.1 + 1) * n ≤ n * n := Nat.mul_le_mul_right n hy1
      rw [Nat.add_mul] at this; omega
    have hnc : Nums W (.slice (some ⟨b5, o5 + x * n, none⟩) n n) (M.chunkAt AL n x) := nums_chunk hNA hxl
    have hcl : (M.chunkAt AL n x).length = n := by unfold M.chunkAt; simp; omega
    have hcw : M.within p (M.chunkAt AL n x) = true := by
      unfold M.within
      rw [List.all_eq_true]
      intro z hz
      have := List.all_eq_true.1 HWA.out z (List.mem_of_mem_drop (List.mem_of_mem_take hz))
      exact this
    have HTR := Lib.hid (trim2_ok p _ (M.chunkAt AL n x) W hnc (M.chk_of HI.out (by omega) hcw))
    have hrs : rowsOf AL n (chs (pre ++ [y])) = rowsOf AL n (chs pre) ++ [M.trim (M.chunkAt AL n x)] := by rw [chs_snoc, rowsOf_snoc, ex]
    have hql : (rowsOf AL n (chs pre)).length ≤ 1000 := by simp [rowsOf, chs]; omega
    obtain ⟨Qs, eQs⟩ : ∃ Qs, Qs = rowsOf AL n (chs pre) := ⟨_, rfl⟩
    obtain ⟨q, eq⟩ : ∃ q, q = M.trim (M.chunkAt AL n x) := ⟨_, rfl⟩
    rw [← eQs] at hR hrs hql
    rw [← eq] at HTR hrs
    have HRS := Lib.hid hrs
    have HR := Lib.hid hR
    have HNA := Lib.hid hNA
    have HNR := Lib.hid hNR
    have HB := Lib.hid hB
    have P1 := Lib.hid b1
    have P2 := Lib.hid b2
    have P3 := Lib.hid b3
    have PL := Lib.hid bl
    rw [← ex]
    have hq0 : w.heap.size < W.heap.size := by omega
    have hql2 : lb < W.heap.size := by omega
    clear hR hNA hNR hB b1 b2 b3 bl hnc hcl hcw hrs eQs eq ex hxl U1 U2 U3 UL u0 bS bN hrd
    gi_wp2
    refine ⟨trivial, (inRound7 l (callsIn_wide.2 HTR.out)).mono ?_⟩
    rintro e w7 ⟨v7, rfl, hn7, hb7⟩
    have HB7 := Lib.hid hb7
    have hs7 : bs + 2 ≤ w7.heap.size := by have := hb7.size; omega
    have L7 := boxBelow PL.out hb7 hql2
    have HR7 := Lib.hid (HR.out.below hb7)
    have N7 := Lib.hid hn7
    obtain ⟨A7, c7, rfl⟩ := nums_slice' hn7
    obtain ⟨QL, eQL⟩ : ∃ QL, QL = q.length := ⟨_, rfl⟩
    rw [← eQL] at N7 ⊢
    have l7c := L7.cell
    have l7f := L7.frozen
    have PL7 := Lib.hid L7
    obtain ⟨Av, cv, rfl⟩ := HR7.out.form
    have hlb7 : lb < w7.heap.size := by omega
    have w8b := balloc w7 (.cells #[.slice A7 QL c7] 31)
    have HR8 := Lib.hid (HR7.out.below w8b)
    have N8 := Lib.hid (N7.out.below w8b)
    have hs8 : bs + 2 ≤ (w7.alloc (.cells #[.slice A7 QL c7] 31)).heap.size := by simp; omega
    have PL8 := Lib.hid (boxBelow L7 w8b hlb7)
    have W8 := Lib.hid w8b
    clear hb7 hn7 L7 eQL w8b
    gi_wp2_with (gi_at_builtin; refine wpListIn_append_rowK (by rfl) _ _ rfl (base := bs + 2) (X := w7.heap.size) (by rfl) (by rfl) (heap_alloc_new w7 _) HR8.out N8.out hql hs8 ?_; intro v9 w9 hR9 hb9 hN9 hk9; obtain ⟨A9, c9, rfl⟩ := hR9.form; obtain ⟨QQ, eQQ⟩ : ∃ QQ, QQ = (Qs ++ [q]).length := ⟨_, rfl⟩; rw [← eQQ]; rw [← eQQ] at hR9; have PL9 := boxBelow PL8.out hb9 (by omega); have l9c := PL9.cell; have l9f := PL9.frozen; have HR9 := Lib.hid hR9; have HB9 := Lib.hid hb9; have HN9 := Lib.hid hN9; have HK9 := Lib.hid hk9; have HL9 := Lib.hid PL9; clear hR9 hb9 hN9 hk9 PL9 eQQ)
    have cb : Below (bs + 2) W w9 := (HB7.out.mono hsz).trans ((W8.out.mono hs7).trans HB9.out)
    have k1 : KeepsFrom W6.heap.size W w7 := keeps_of_below HB7.out _
    have k2 : KeepsFrom W6.heap.size w7 (w7.alloc (.cells #[.slice A7 QL c7] 31)) := (KeepsOthers.alloc w7 _).from _
    have k3 := HK9.out.from W6.heap.size
    have k4 : KeepsFrom W6.heap.size w9 (w9.setCell ⟨lb, 0, none⟩ (.slice A9 QQ c9)) := (KeepsOthers.setCell w9 ⟨lb, 0, none⟩ _).from _
    have m1 : KC w.heap.size bs W w9 := ⟨cb.mono (by omega), cb.cell (p := ⟨bs, 0, none⟩) (by dsimp only; omega), cb.cell (p := ⟨bs + 1, 0, none⟩) (by dsimp only; omega)⟩
    have m2 : KC w.heap.size bs w9 (w9.setCell ⟨lb, 0, none⟩ (.slice A9 QQ c9)) := ⟨(Below.refl _ _).setCell (p := ⟨lb, 0, none⟩) (by dsimp only; omega) _, World.cell?_setCell_other _ _ _ _ (by intro e; have := congrArg Addr.block e; simp at this; omega), World.cell?_setCell_other _ _ _ _ (by intro e; have := congrArg Addr.block e; simp at this; omega)⟩
    have hp9 : (w9.setCell ⟨lb, 0, none⟩ (.slice A9 QQ c9)).cell? ⟨w.heap.size, 0, none⟩ = some (.int .u64 (p : Nat)) := (World.cell?_setCell_other _ _ _ _ (by intro e; have := congrArg Addr.block e; simp at this; omega)).trans ((cb.cell (p := ⟨w.heap.size, 0, none⟩) (by dsimp only; omega)).trans hp0)
    have hr9 := HR9.out.set_box (u := .slice A9 QQ c9) HL9.out (by omega)
    rw [← HRS.out] at hr9
    have na9 : Nums (w9.setCell ⟨lb, 0, none⟩ (.slice A9 QQ c9)) _ _ := nums_set_box (HN9.out _ _ ((HNA.out.below HB7.out).below W8.out)) HL9.out
    have nr9 : Nums (w9.setCell ⟨lb, 0, none⟩ (.slice A9 QQ c9)) _ _ := nums_set_box (HN9.out _ _ ((HNR.out.below HB7.out).below W8.out)) HL9.out
    have hsz9 : bs + 2 ≤ (w9.setCell ⟨lb, 0, none⟩ (.slice A9 QQ c9)).heap.size := by have := HB9.out.size; simp at this ⊢; omega
    have hb9 := HB.out.trans (m1.1.trans m2.1)
    exact ⟨(k1.trans k2).trans (k3.trans k4), m1.trans m2, ⟨_, hr9, hsz9, na9, nr9, hp9, boxOther (boxBelow P1.out cb (by omega)) (by omega) _, boxOther (boxBelow P2.out cb (by omega)) (by omega) _, boxOther (boxBelow P3.out cb (by omega)) (by omega) _, HL9.out.set _⟩, hb9⟩
  case done =>
    rintro D ys W hD hys ⟨⟨tv, hR, hsz, hNA, hNR, hp0, b1, b2, b3, bl⟩, hB⟩ hK
    have hrm : rowsOf AL n (chs ys) = M.mmade p s T zs T := by
      rw [HMM.out, hys, EAL.out]; rfl
    rw [hrm] at hR
    have hML : (M.mmade p s T zs T).length ≤ 1000 := by rw [M.mmade_len]; omega
    have hmat := hR.mat hML
    obtain ⟨Av, cv, rfl⟩ := hR.form
    obtain ⟨ML, eML⟩ : ∃ ML, ML = (M.mmade p s T zs T).length := ⟨_, rfl⟩
    rw [← eML] at bl hmat hR
    have c1 := b1.cell
    have f1 := b1.frozen
    have c2 := b2.cell
    have f2 := b2.frozen
    have c3 := b3.cell
    have f3 := b3.frozen
    have cl := bl.cell
    have HB := Lib.hid hB
    have P1 := Lib.hid b1
    have P2 := Lib.hid b2
    have P3 := Lib.hid b3
    have HR := Lib.hid hR
    have HNR := Lib.hid hNR
    clear hNA hNR hR hmat hB b1 b2 b3 bl hrm hML eML U1 U2 U3 UL u0 bS bN hrd
    gi_wp2
    obtain ⟨Wd, eWd⟩ : ∃ Wd, Wd = ((W.setCell ⟨w.heap.size + 1, 0, none⟩ (.slice Av ML cv)).setCell ⟨w.heap.size + 1 + 1, 0, none⟩ (.slice A2 RL k2)).setCell ⟨w.heap.size + 1 + 1 + 1, 0, none⟩ (.int .i64 0) := ⟨_, rfl⟩
    have hK' : Wd.heap[D]? = some (.deferred (some [])) := by rw [eWd]; exact (((KeepsOthers.setCell W ⟨w.heap.size + 1, 0, none⟩ (.slice Av ML cv)).trans (KeepsOthers.setCell _ ⟨w.heap.size + 1 + 1, 0, none⟩ (.slice A2 RL k2))).trans (KeepsOthers.setCell _ ⟨w.heap.size + 1 + 1 + 1, 0, none⟩ (.int .i64 0))).same D _ hK rfl
    have d1 : Boxed Wd (w.heap.size + 1) 25 (.slice Av ML cv) := by rw [eWd]; exact boxOther (boxOther (P1.out.set _) (by omega) _) (by omega) _
    have d2 : Boxed Wd (w.heap.size + 1 + 1) 31 (.slice A2 RL k2) := by rw [eWd]; exact boxOther ((boxOther P2.out (by omega) _).set _) (by omega) _
    have d3 : Boxed Wd (w.heap.size + 1 + 1 + 1) 26 (.int .i64 0) := by rw [eWd]; exact (boxOther (boxOther P3.out (by omega) _) (by omega) _).set _
    have x2 : Boxed (W.setCell ⟨w.heap.size + 1, 0, none⟩ (.slice Av ML cv)) (w.heap.size + 1 + 1) 31 (.slice none 0 0) := boxOther P2.out (by omega) _
    have x3 : Boxed ((W.setCell ⟨w.heap.size + 1, 0, none⟩ (.slice Av ML cv)).setCell ⟨w.heap.size + 1 + 1, 0, none⟩ (.slice A2 RL k2)) (w.heap.size + 1 + 1 + 1) 26 (.int .i64 0) := boxOther (boxOther P3.out (by omega) _) (by omega) _
    have hrd : RowsN Wd (bs + 2) (.slice Av ML cv) (M.mmade p s T zs T) := by
      rw [eWd]
      exact ((HR.out.set_box P1.out (by omega)).set_box x2 (by omega)).set_errno x3 (by omega)
    have hnr : Nums Wd (.slice A2 RL k2) rs := by
      rw [eWd]
      exact nums_set_errno (nums_set_box (nums_set_box HNR.out P1.out) x2) x3
    have bd : Below w.heap.size w Wd := by rw [eWd]; exact ((HB.out.setCell (p := ⟨w.heap.size + 1, 0, none⟩) (by simp) _).setCell (p := ⟨w.heap.size + 1 + 1, 0, none⟩) (by simp; omega) _).setCell (p := ⟨w.heap.size + 1 + 1 + 1, 0, none⟩) (by simp; omega) _
    rw [← eWd]
    clear eWd hK
    refine ⟨by simp, .inl ⟨_, _, rfl, run_takeDeferred hK', ?_⟩⟩
    have htn : ∀ r, some D = some r → ∃ o : Obj, Wd.heap[r]? = some o ∧ o.isCells = false := fun r e => by cases e; exact ⟨_, hK', rfl⟩
    have hc1 := cell_kept d1.cell (grownBy_putObj' _ D (.deferred none)) htn
    have hc2 := cell_kept d2.cell (grownBy_putObj' _ D (.deferred none)) htn
    have hc3 := cell_kept d3.cell (grownBy_putObj' _ D (.deferred none)) htn
    have hmd := (hrd.turn (grownBy_putObj' _ D (.deferred none)) htn).mat (by rw [M.mmade_len]; omega)
    have hnd := numsTurn7 hnr (grownBy_putObj' _ D (.deferred none)) htn
    refine ⟨.tuple #[.slice Av ML cv, .slice A2 RL k2, .int .i64 0], ?_, .slice Av ML cv, .slice A2 RL k2, rfl, hmd, hnd, bd.trans (belowK_b (w := w) (Nat.le_refl _) Wd D _ (.deferred none) (by omega) hK' rfl rfl)⟩
    simp [results, Try.f17, go_sem, hc1, hc2, hc3]
end Go.Proofs.Ytfkepkdfpjaniaa
