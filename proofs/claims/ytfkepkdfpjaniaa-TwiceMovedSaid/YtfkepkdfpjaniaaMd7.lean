/-
  The law TwiceMoved: the boxes that it holds, and what each call of it answers.
-/
import Derived.Test.YtfkepkdfpjaniaaSb7
import Derived.Test.YtfkepkdfpjaniaaTw4
import Derived.Test.YtfkepkdfpjaniaaTr5
import Derived.Test.YtfkepkdfpjaniaaRB
namespace Go.Proofs.Ytfkepkdfpjaniaa
open Go.RowKit
set_option linter.unusedVariables false
set_option maxRecDepth 100000

/-- beside the setup, the box of a Shift -/
structure SD (W : World) (P : Nat) (n t : Int) (u0 u1 : Value) (a b : Nat) (u4 : Value) (w : World) : Prop extends SB W P n t w where
  lt1 : W.heap.size + 1 < w.heap.size
  d0 : w.cell? ⟨W.heap.size + 1, 0, none⟩ = some u0
  d1 : w.cell? ⟨W.heap.size + 1, 1, none⟩ = some u1
  d2 : w.cell? ⟨W.heap.size + 1, 2, none⟩ = some (.int .u64 (a : Nat))
  d3 : w.cell? ⟨W.heap.size + 1, 3, none⟩ = some (.int .u64 (b : Nat))
  d4 : w.cell? ⟨W.heap.size + 1, 4, none⟩ = some u4
theorem SD.start (W : World) (P : Nat) (n t : Int) (A0 A1 A4 : Option Addr) (l0 c0 l1 c1 a b l4 c4 : Nat) : SD W P n t (.slice A0 l0 c0) (.slice A1 l1 c1) a b (.slice A4 l4 c4) ((W.alloc (.cells #[.int .u64 (P : Nat), .int .i64 n, .int .i64 t] 24)).alloc (.cells #[.slice A0 l0 c0, .slice A1 l1 c1, .int .u64 (a : Nat), .int .u64 (b : Nat), .slice A4 l4 c4] 71)) :=
  ⟨(SB.start W P n t).alloc _, by simp, by simp, by simp, by simp, by simp, by simp⟩
theorem SD.next {W w w' : World} {P : Nat} {n t : Int} {u0 u1 u4 : Value} {a b : Nat} (h : SD W P n t u0 u1 a b u4 w) (hb : Below w.heap.size w w') : SD W P n t u0 u1 a b u4 w' :=
  ⟨h.toSB.next hb, Nat.lt_of_lt_of_le h.lt1 hb.size, (hb.cell (p := ⟨W.heap.size + 1, 0, none⟩) h.lt1).trans h.d0, (hb.cell (p := ⟨W.heap.size + 1, 1, none⟩) h.lt1).trans h.d1, (hb.cell (p := ⟨W.heap.size + 1, 2, none⟩) h.lt1).trans h.d2, (hb.cell (p := ⟨W.heap.size + 1, 3, none⟩) h.lt1).trans h.d3, (hb.cell (p := ⟨W.heap.size + 1, 4, none⟩) h.lt1).trans h.d4⟩
theorem SD.alloc {W w : World} {P : Nat} {n t : Int} {u0 u1 u4 : Value} {a b : Nat} (h : SD W P n t u0 u1 a b u4 w) (o : Obj) : SD W P n t u0 u1 a b u4 (w.alloc o) := h.next (balloc w o)
theorem SD.drew {W w : World} {P : Nat} {n t : Int} {u0 u1 u4 : Value} {a b : Nat} (h : SD W P n t u0 u1 a b u4 w) : SD W P n t u0 u1 a b u4 w.drew := h.next (Below.refl _ _).drew

theorem ints_slice8 {w : World} {v : Value} {l : List Int} (h : IntsZ w v l) : ∃ A cap, v = .slice A l.length cap := by
  obtain ⟨_, _, A, cap, e, _⟩ := h
  exact ⟨A, cap, e⟩
namespace M
theorem errW_of {p : Nat} {f : List Nat} (h : f.length ≤ 201) (h2 : within p f = true) : errW p f = 0 := by
  unfold errW
  rw [if_neg (by omega), if_pos h2]
theorem shortE_of0 {p T : Nat} {f : List Nat} (h : f.length ≤ T + 1) (h2 : within p f = true) : shortE p T f = 0 := by
  unfold shortE
  rw [if_neg (by omega), if_pos h2]
theorem mmoved_get {p : Nat} {m : List (List Nat)} {z q : List Nat} {n j : Nat} (h : j < n) : (mmoved p m z q n).getD j [] = psub p (m.getD j []) (pscale p z (q.getD j 0)) := by
  rw [← mmoved_map]
  simp [List.getD_eq_getElem?_getD, List.getElem?_range h, mvQ]
theorem mmoved_len8 (p : Nat) (m : List (List Nat)) (z q : List Nat) (n : Nat) : (mmoved p m z q n).length = n := by
  rw [← mmoved_map]; simp
theorem mmoved_TOk {p T : Nat} {m : List (List Nat)} {z q : List Nat} (h0 : 0 < p) (hm : TOk p (T + 1) m) (hz : z.length ≤ T + 1) : TOk p (T + 1) (mmoved p m z q (T + 1)) := by
  refine ⟨mmoved_len8 _ _ _ _ _, fun i hi => ?_, fun i hi => ?_⟩
  · rw [mmoved_get hi]
    have h1 := hm.rows i hi
    have h2 : (pscale p z (q.getD i 0)).length ≤ z.length := poly_len p z.length _
    exact Nat.le_trans (poly_len p _ _) (by omega)
  · rw [mmoved_get hi]
    exact poly_within h0 _ _
end M

/-- what the calls of the law answer, once z is known -/
structure MvF (P T N : Nat) (m : List (List Nat)) (X Y : List Nat) (a b : Nat) (l : List Int) (z zx x zy y was now d q : List Nat) (mm : List (List Nat)) (ww v zq sum : List Nat) : Prop where
  sc1 : ∀ w V, Nums w V z → Calls Try.prog 46 #[.int .u64 P, V, .int .u64 a] w (Gives w zx)
  ad1 : ∀ w V V2, Nums w V X → Nums w V2 zx → Calls Try.prog 39 #[.int .u64 P, V, V2] w (Gives w x)
  sc2 : ∀ w V, Nums w V z → Calls Try.prog 46 #[.int .u64 P, V, .int .u64 b] w (Gives w zy)
  ad2 : ∀ w V V2, Nums w V Y → Nums w V2 zy → Calls Try.prog 39 #[.int .u64 P, V, V2] w (Gives w y)
  mu1 : ∀ w V V2, Nums w V X → Nums w V2 Y → Calls Try.prog 40 #[.int .u64 P, V, V2] w (Gives w was)
  mu2 : ∀ w V V2, Nums w V x → Nums w V2 y → Calls Try.prog 40 #[.int .u64 P, V, V2] w (Gives w now)
  su1 : ∀ w V V2, Nums w V now → Nums w V2 was → Calls Try.prog 41 #[.int .u64 P, V, V2] w (Gives w d)
  cut : ∀ w V V2, IntsZ w V l → Nums w V2 d → Calls Try.prog 35 #[.agg #[.int .u64 P, .int .i64 N, .int .i64 T], V, V2] w fun e w' => ∃ vz vq, e = .returned (.tuple #[vz, vq, .int .i64 0]) ∧ Nums w' vz z ∧ Nums w' vq q ∧ Below w.heap.size w w'
  ql : q.length ≤ T + 1
  mov : ∀ w V Vz Vq, Mat w V m → Nums w Vz z → Nums w Vq q → Calls Try.prog 33 #[.agg #[.int .u64 P, .int .i64 N, .int .i64 T], V, Vz, Vq] w fun e w' => ∃ v', e = .returned (.tuple #[v', .int .i64 0]) ∧ Mat w' v' mm ∧ Below w.heap.size w w'
  wh1 : ∀ w V, Mat w V m → Calls Try.prog 24 #[.agg #[.int .u64 P, .int .i64 N, .int .i64 T], V] w (Gives2 w ww)
  wh2 : ∀ w V, Mat w V mm → Calls Try.prog 24 #[.agg #[.int .u64 P, .int .i64 N, .int .i64 T], V] w (Gives2 w v)
  mu3 : ∀ w V V2, Nums w V z → Nums w V2 q → Calls Try.prog 40 #[.int .u64 P, V, V2] w (Gives w zq)
  su2 : ∀ w V V2, Nums w V ww → Nums w V2 zq → Calls Try.prog 41 #[.int .u64 P, V, V2] w (Gives w v)
  ad3 : ∀ w V V2, Nums w V now → Nums w V2 v → Calls Try.prog 39 #[.int .u64 P, V, V2] w (Gives w sum)
  ad4 : ∀ w V V2, Nums w V was → Nums w V2 ww → Calls Try.prog 39 #[.int .u64 P, V, V2] w (Gives w sum)
  len : mm.length = T + 1
  ev : ∀ i k, i < l.length → k < T + 1 → ∃ c r : Nat, l.getD i 0 = (c : Int) ∧ c < 65537 ∧ (∀ w V, Nums w V (m.getD k []) → Calls Try.prog 32 #[.int .u64 P, V, .int .u64 c] w fun e w' => e = .returned (.int .u64 (r : Nat)) ∧ w = w') ∧
    (∀ w V, Nums w V (mm.getD k []) → Calls Try.prog 32 #[.int .u64 P, V, .int .u64 c] w fun e w' => e = .returned (.int .u64 (r : Nat)) ∧ w = w')

set_option maxHeartbeats 1000000 in
theorem mvF {P N T : Nat} {m : List (List Nat)} {X Y : List Nat} {a b : Nat} {l : List Int} {z : List Nat} (hn1 : -9223372036854775808 ≤ (N : Int)) (hn2 : (N : Int) ≤ 9223372036854775807)
    (hE : M.tchk P N T m = 0) (hC : M.errC P N T l = 0) (hX : X.length ≤ T + 1) (hY : Y.length ≤ T + 1) (hwX : M.within P X = true) (hwY : M.within P Y = true) (ha : a < P) (hb : b < P)
    (hz : M.AwayK P (M.pts l) (M.pts l).length z) : ∃ zx x zy y was now d q mm ww v zq sum, MvF P T N m X Y a b l z zx x zy y was now d q mm ww v zq sum := by
  obtain ⟨hok, hm⟩ := M.tchk_zero hE
  obtain ⟨_, hll, hrs⟩ := M.errC_zero hC
  obtain ⟨N', T', eN, eT, hi, hN1, hN2, hNT, hNp⟩ := M.okS_nat hok
  obtain rfl : T = T' := by omega
  obtain rfl : N = N' := by omega
  clear eN eT
  rw [Int.toNat_natCast] at hm
  obtain ⟨h3, hp5⟩ := M.pos_of hi
  have h0 : 0 < P := by omega
  have hT : T ≤ 3 := by omega
  have hpl := M.pts_len l
  have hzw := hz.1
  have hzl : z.length ≤ T + 1 := by have := hz.2.2.1; omega
  have hzz := hz.2.2.2.2
  have hnz : 0 < z.length := Nat.pos_of_ne_zero fun h => hz.ne (by rw [List.length_eq_zero_iff.1 h]; rfl)
  have hq := M.shiftQ_len (p := P) (T := T + 1) a b hX hY hzl
  have hqw : M.within P (M.shiftQ P X Y z a b) = true := M.poly_within h0 _ _
  have hxw : ∀ f g, M.within P (M.padd P f g) = true := fun f g => M.poly_within h0 _ _
  have hxl : ∀ f g, (M.padd P f g).length ≤ max f.length g.length := fun f g => M.poly_len _ _ _
  have hsw : ∀ f g, M.within P (M.psub P f g) = true := fun f g => M.poly_within h0 _ _
  have hsl : ∀ f g, (M.psub P f g).length ≤ max f.length g.length := fun f g => M.poly_len _ _ _
  have hcw : ∀ f c, M.within P (M.pscale P f c) = true := fun f c => M.poly_within h0 _ _
  have hcl : ∀ f c, (M.pscale P f c).length ≤ f.length := fun f c => M.poly_len _ _ _
  have hmw : ∀ f g, M.within P (M.pmul P f g) = true := fun f g => M.poly_within h0 _ _
  have hml : ∀ f g, (M.pmul P f g).length ≤ f.length + g.length := fun f g => M.poly_len _ _ _
  have hwl := M.whole_deg hm
  have hww : M.within P (M.wholeK P m (T + 1)) = true := M.wholeK_within h0 m _
  have hmk := M.mmoved_TOk (q := M.shiftQ P X Y z a b) h0 hm hzl
  have hme : M.tchk P N T (M.mmoved P m z (M.shiftQ P X Y z a b) (T + 1)) = 0 := by rw [M.tchk_of hok]; exact M.mform_ok hmk
  have hvl := M.whole_deg hmk
  have hmv : M.mvE P N T m z (M.shiftQ P X Y z a b) = 0 := by
    unfold M.mvE
    rw [if_pos hE, Int.toNat_natCast, M.shortE_of0 hzl hzw, if_pos rfl, M.shortE_of0 hq hqw]
  have hwm := M.whole_moved (N := T) h0 m z (M.shiftQ P X Y z a b) (M.mmoved P m z (M.shiftQ P X Y z a b) (T + 1)) (by omega) (fun j hj => M.mmoved_get hj)
  have hvw : M.within P (M.wholeK P (M.mmoved P m z (M.shiftQ P X Y z a b) (T + 1)) (T + 1)) = true := M.wholeK_within h0 _ _
  have hsm := M.masked_same (p := P) h0 (was := M.pmul P X Y) (now := M.pmul P (M.padd P X (M.pscale P z a)) (M.padd P Y (M.pscale P z b))) hwm (hmw _ _) (fun i => by
    rw [← M.shift_sum (p := P) X Y z a b i, M.pmul_comm P z, Nat.add_mod, M.pmul_get P (M.shiftQ P X Y z a b) z i, ← Nat.add_mod])
  have lx := hxl X (M.pscale P z a)
  have ly := hxl Y (M.pscale P z b)
  have lzx := hcl z a
  have lzy := hcl z b
  have lwas := hml X Y
  have lnow := hml (M.padd P X (M.pscale P z a)) (M.padd P Y (M.pscale P z b))
  have ld := hsl (M.pmul P (M.padd P X (M.pscale P z a)) (M.padd P Y (M.pscale P z b))) (M.pmul P X Y)
  have lzq := hml z (M.shiftQ P X Y z a b)
  refine ⟨_, _, _, _, _, _, _, _, _, _, _, _, _,
    fun w V h => rscale_any P a V z w h0 hp5 ha hzw (by omega) h,
    fun w V V2 h h2 => radd_any P V V2 X (M.pscale P z a) w h0 hp5 hwX (hcw _ _) (by omega) (by omega) h h2,
    fun w V h => rscale_any P b V z w h0 hp5 hb hzw (by omega) h,
    fun w V V2 h h2 => radd_any P V V2 Y (M.pscale P z b) w h0 hp5 hwY (hcw _ _) (by omega) (by omega) h h2,
    fun w V V2 h h2 => rmul_any P V V2 X Y w h0 hp5 hwX hwY (by omega) (by omega) h h2,
    fun w V V2 h h2 => rmul_any P V V2 (M.padd P X (M.pscale P z a)) (M.padd P Y (M.pscale P z b)) w h0 hp5 (hxw _ _) (hxw _ _) (by omega) (by omega) h h2,
    fun w V V2 h h2 => rsub_any P V V2 (M.pmul P (M.padd P X (M.pscale P z a)) (M.padd P Y (M.pscale P z b))) (M.pmul P X Y) w (by omega) hp5 (hmw _ _) (hmw _ _) (by omega) (by omega) h h2,
    fun w V V2 h h2 => ?_,
    hq,
    fun w V Vz Vq h h2 h4 => ?_,
    fun w V h => tWhole_any P T N V m w hn1 hn2 h hE,
    fun w V h => tWhole_any P T N V (M.mmoved P m z (M.shiftQ P X Y z a b) (T + 1)) w hn1 hn2 h hme,
    fun w V V2 h h2 => rmul_any P V V2 z (M.shiftQ P X Y z a b) w h0 hp5 hzw hqw (by omega) (by omega) h h2,
    fun w V V2 h h2 => ?_,
    fun w V V2 h h2 => radd_any P V V2 (M.pmul P (M.padd P X (M.pscale P z a)) (M.padd P Y (M.pscale P z b))) (M.wholeK P (M.mmoved P m z (M.shiftQ P X Y z a b) (T + 1)) (T + 1)) w h0 hp5 (hmw _ _) hvw (by omega) (by omega) h h2,
    fun w V V2 h h2 => ?_,
    M.mmoved_len8 _ _ _ _ _,
    fun i k hi' hk => ?_⟩
  · have hds := M.shift_isDiv (p := P) h0 X Y z a b hnz
    refine (tcut_any P T N V V2 l _ w hn1 hn2 h h2 hC).mono fun e w' hh => ?_
    obtain ⟨hbb, ⟨h, _⟩ | ⟨-, z', q', r', haw, hdv, hr⟩⟩ := hh
    · exact absurd (M.errW_of (by omega) (hsw _ _)) h
    · obtain rfl := M.AwayK.unique hi (M.pts_noz hrs) (M.pts_nodup hrs) (M.pts_within hrs (show (N : Int) < (P : Int) by omega)) haw hz
      obtain ⟨rfl, rfl⟩ := M.isDiv_unique hi (M.lead_of hzw hz.2.1 hnz) (fun _ => rfl) hdv hds
      rcases hr with ⟨hr, _⟩ | ⟨-, vz, vq, rfl, h1, h2⟩
      · exact absurd rfl hr
      · exact ⟨vz, vq, rfl, h1, h2, hbb⟩
  · refine (tmoved_any P T N V Vz Vq m z _ w hn1 hn2 h h2 h4 hE).mono fun e w' hh => ?_
    rcases hh with ⟨h, _⟩ | ⟨-, v', rfl, hm', hbb⟩
    · exact absurd hmv h
    · exact ⟨v', rfl, hm', hbb⟩
  · rw [hwm]
    exact rsub_any P V V2 (M.wholeK P m (T + 1)) (M.pmul P z (M.shiftQ P X Y z a b)) w (by omega) hp5 hww (hmw _ _) (by omega) (by omega) h h2
  · rw [hsm]
    exact radd_any P V V2 (M.pmul P X Y) (M.wholeK P m (T + 1)) w h0 hp5 (hmw _ _) hww (by omega) (by omega) h h2
  · have hrg := M.rises_range hrs hi'
    have hzi := hzz i (by omega)
    rw [M.pts_get] at hzi
    refine ⟨(l.getD i 0).toNat, M.pev P (m.getD k []) (l.getD i 0).toNat, by omega, by omega, fun w V h => reval_any P _ V _ w (by omega) hp5 (by omega) (hm.lt k hk) h, fun w V h => ?_⟩
    have hee := M.moved_value (f := m.getD k []) (c := (M.shiftQ P X Y z a b).getD k 0) h0 hzi
    rw [← M.mmoved_get (m := m) (n := T + 1) hk] at hee
    rw [← hee]
    exact reval_any P _ V _ w (by omega) hp5 (by omega) (hmk.lt k hk) h
end Go.Proofs.Ytfkepkdfpjaniaa
