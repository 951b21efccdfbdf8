/-
  Package twice of the program: Join, Cut.
-/
import Derived.Test.YtfkepkdfpjaniaaTw3
import Derived.Test.YtfkepkdfpjaniaaPwy
import Derived.Test.YtfkepkdfpjaniaaLI
import Derived.Test.YtfkepkdfpjaniaaP7b
import Derived.Deep.RegionHeld3
namespace Go.Proofs.Ytfkepkdfpjaniaa
open Go.RowKit
set_option linter.unusedVariables false
set_option maxRecDepth 100000

namespace M
theorem AwayOf.k {p : Nat} {xs A : List Nat} (h : AwayOf p xs A) : AwayK p xs xs.length A := by
  refine ⟨h.1, h.2.1, by have := h.2.2.1; simpa using this, ?_, fun i hi => ?_⟩
  · have := h.2.2.2 xs.length (by simp)
    rw [List.getD_eq_getElem?_getD, List.getElem?_append_right (by omega), Nat.sub_self, List.getD_eq_getElem?_getD, List.getElem?_append_right (by simp)] at this
    simpa using this
  · have := h.2.2.2 i (by simp; omega)
    have e1 : (xs ++ [0]).getD i 0 = xs.getD i 0 := by rw [List.getD_eq_getElem?_getD, List.getElem?_append_left hi, ← List.getD_eq_getElem?_getD]
    have e2 : (List.replicate xs.length 0 ++ [1]).getD i 0 = 0 := by rw [List.getD_eq_getElem?_getD, List.getElem?_append_left (by simpa using hi)]; simp [hi]
    rw [e1, e2] at this
    exact this
theorem AwayK.unique {p : Nat} {xs f g : List Nat} (hi : isP p = true) (hz : NoZ xs) (hn : xs.Nodup) (hw : within p xs = true) (h : AwayK p xs xs.length f) (h2 : AwayK p xs xs.length g) : f = g := by
  have hw2 : within p (xs ++ [0]) = true := by
    have := pos_of hi
    unfold within at hw ⊢
    rw [List.all_append, hw]
    simp; omega
  exact Thru.unique hi ((nodup_snoc hz).2 hn) hw2 h.done h2.done
theorem AwayK.ne {p : Nat} {xs f : List Nat} {k : Nat} (h : AwayK p xs k f) : trim f ≠ [] := by
  intro e
  have h4 := h.2.2.2.1
  rw [← h.2.1, e] at h4
  simp [pev, evN] at h4
end M

set_option maxHeartbeats 1000000 in
theorem tjoin_setup (p x : Nat) (n0 t : Int) (v : Value) (f : List Nat) (w : World) (hp : p < 18446744073709551616) (hn1 : -9223372036854775808 ≤ n0) (hn2 : n0 ≤ 9223372036854775807) (ht1 : -9223372036854775808 ≤ t) (ht2 : t ≤ 9223372036854775807) (hv : Nums w v f) (hok : M.okS p n0 t = false) :
    Calls Try.prog 30 #[suV p n0 t, v, .int .u64 x] w fun e w' => e = .returned (.tuple #[.int .u64 0, .int .i64 2]) ∧ Below w.heap.size w w' := by
  have hs := fun W => setup_any p n0 t W hp hn1 hn2 ht1 ht2
  rw [show M.errS p n0 t = 2 by unfold M.errS; rw [hok]; rfl] at hs
  have HS := Lib.hid hs
  obtain ⟨A, cap, rfl⟩ := nums_slice' hv
  clear hs hv hok
  unfold suV at HS ⊢
  go_enter Try.func30, Try.ntmps30
  go_wp2_with fail
  refine (HS.out _).mono ?_
  rintro e w1 ⟨rfl, hb⟩
  have B1 := Lib.hid (bnext (balloc w _) hb)
  clear hb
  go_wp2_with fail
  go_ret2
  exact ⟨rfl, B1.out⟩

/-- what Join answers: the value, or ErrArg -/
def JoinEnd (p T x : Nat) (f : List Nat) (w : World) (e : Ending) (w' : World) : Prop :=
  ((f.length = T + 1 ∧ M.within p f = true ∧ x < p ∧ e = .returned (.tuple #[.int .u64 (M.pev p f x : Nat), .int .i64 0])) ∨ (¬ (f.length = T + 1 ∧ M.within p f = true ∧ x < p) ∧ e = .returned (.tuple #[.int .u64 0, .int .i64 2]))) ∧ Below w.heap.size w w'
theorem eval_end (p x : Nat) (v : Value) (f : List Nat) (w : World) (hi : M.isP p = true) (hl : f.length ≤ 201) (hx : x < 18446744073709551616) (hv : Nums w v f) :
    Calls Try.prog 61 #[.int .u64 p, v, .int .u64 x] w fun e w' => ((M.within p f = true ∧ x < p ∧ e = .returned (.tuple #[.int .u64 (M.pev p f x : Nat), .int .i64 0])) ∨ (¬ (M.within p f = true ∧ x < p) ∧ e = .returned (.tuple #[.int .u64 0, .int .i64 2]))) ∧ Below w.heap.size w w' := by
  obtain ⟨h3, hp⟩ := M.pos_of hi
  cases hw : M.within p f with
  | false =>
    have hc : M.chk p f 201 = 2 := by unfold M.chk; rw [if_neg (by simp [hi]), if_neg (by omega), if_neg (by simp [hw])]
    have := eval_bad p x v f w (by omega) hv (by rw [hc]; decide)
    rw [hc] at this
    exact this.mono fun e w' ⟨h1, h2⟩ => by subst h2; exact ⟨.inr ⟨by simp, h1⟩, Below.refl _ _⟩
  | true =>
    have hc := M.chk_of hi hl hw
    by_cases hpx : p ≤ x
    · exact (eval_arg p x v f w hx hpx hv hc).mono fun e w' ⟨h1, h2⟩ => by subst h2; exact ⟨.inr ⟨by omega, h1⟩, Below.refl _ _⟩
    · exact (eval_ok p x v f w (by omega) hv hc).mono fun e w' ⟨h1, h2⟩ => ⟨.inl ⟨rfl, by omega, h1⟩, h2⟩

set_option maxHeartbeats 1000000 in
theorem tjoin_any (p T x : Nat) (n0 : Int) (v : Value) (f : List Nat) (w : World) (hn1 : -9223372036854775808 ≤ n0) (hn2 : n0 ≤ 9223372036854775807) (hx : x < 18446744073709551616) (hv : Nums w v f) (hok : M.okS p n0 T = true) :
    Calls Try.prog 30 #[suV p n0 T, v, .int .u64 x] w (JoinEnd p T x f w) := by
  obtain ⟨N, T', rfl, eT, hi, hN1, hN2, hNT, hNp⟩ := M.okS_nat hok
  obtain rfl : T = T' := by omega
  clear eT
  have hT : T ≤ 3 := by omega
  obtain ⟨h3, hp⟩ := M.pos_of hi
  have hs := fun W => setup_any p N T W (by omega) hn1 hn2 (by omega) (by omega)
  rw [show M.errS p N T = 0 by unfold M.errS; rw [hok]; rfl] at hs
  have HS := Lib.hid hs
  have HE := Lib.hid fun (W : World) (hl : f.length ≤ 201) (h : Below w.heap.size w W) => eval_end p x v f W hi hl hx (hv.below h)
  have hw1 : IntKind.i64.wrap ((T : Int) + 1) = (T : Int) + 1 := by rw [IntKind.wrap_i64]; omega
  obtain ⟨A, cap, rfl⟩ := nums_slice' hv
  unfold JoinEnd
  obtain ⟨WT, eWT⟩ : ∃ WT : Prop, WT = (M.within p f = true) := ⟨_, rfl⟩
  obtain ⟨PV, ePV⟩ : ∃ PV, PV = M.pev p f x := ⟨_, rfl⟩
  rw [← eWT, ← ePV] at HE ⊢
  clear hs hv hok hi eWT ePV
  unfold suV at HS ⊢
  have hB0 := balloc w (.cells #[.int .u64 p, .int .i64 (N : Nat), .int .i64 (T : Nat)] 24)
  have HB0 := Lib.hid hB0
  clear hB0
  by_cases hl : f.length = T + 1
  case neg =>
    have hb : ((f.length : Int) != (T : Int) + 1) = true := by rw [bne_iff_ne]; omega
    have HL := Lib.hid hl
    clear hl
    go_enter Try.func30, Try.ntmps30
    go_wp2_with fail
    refine (HS.out _).mono ?_
    rintro e w1 ⟨rfl, hb1⟩
    have c2 := (hb1.cell (p := ⟨w.heap.size, 2, none⟩) (by simp)).trans (show (w.alloc (.cells #[.int .u64 p, .int .i64 (N : Nat), .int .i64 (T : Nat)] 24)).cell? ⟨w.heap.size, 2, none⟩ = some (.int .i64 (T : Nat)) by simp)
    have B1 := Lib.hid (bnext HB0.out hb1)
    clear hb1
    go_wp2_with fail
    go_ret2
    exact ⟨.inr ⟨fun h => HL.out h.1, rfl⟩, B1.out⟩
  have hb : ((f.length : Int) != (T : Int) + 1) = false := by rw [bne_eq_false_iff_eq]; omega
  have HL := Lib.hid hl
  clear hl
  go_enter Try.func30, Try.ntmps30
  go_wp2_with fail
  refine (HS.out _).mono ?_
  rintro e w1 ⟨rfl, hb1⟩
  have c2 := (hb1.cell (p := ⟨w.heap.size, 2, none⟩) (by simp)).trans (show (w.alloc (.cells #[.int .u64 p, .int .i64 (N : Nat), .int .i64 (T : Nat)] 24)).cell? ⟨w.heap.size, 2, none⟩ = some (.int .i64 (T : Nat)) by simp)
  have c0 := (hb1.cell (p := ⟨w.heap.size, 0, none⟩) (by simp)).trans (show (w.alloc (.cells #[.int .u64 p, .int .i64 (N : Nat), .int .i64 (T : Nat)] 24)).cell? ⟨w.heap.size, 0, none⟩ = some (.int .u64 (p : Nat)) by simp)
  have hB1 := bnext HB0.out hb1
  have B1 := Lib.hid hB1
  have HE1 := Lib.hid (HE.out _ (by have := HL.out; omega) hB1)
  clear hb1 hB1
  go_wp2_with fail
  refine HE1.out.mono ?_
  rintro e w2 ⟨h2, hb2⟩
  have B2 := Lib.hid (bnext B1.out hb2)
  rcases h2 with ⟨a1, a2, rfl⟩ | ⟨a1, rfl⟩
  · have A1 := Lib.hid a1
    clear hb2 a1
    go_wp2_with fail
    go_ret2
    exact ⟨.inl ⟨HL.out, A1.out, a2, rfl⟩, B2.out⟩
  · have A1 := Lib.hid a1
    clear hb2 a1
    go_wp2_with fail
    go_ret2
    exact ⟨.inr ⟨fun h => A1.out h.2, rfl⟩, B2.out⟩

set_option maxHeartbeats 1000000 in
theorem tcut_bad (p : Nat) (n0 t : Int) (vl vd : Value) (l : List Int) (d : List Nat) (w : World) (hp : p < 18446744073709551616) (hn1 : -9223372036854775808 ≤ n0) (hn2 : n0 ≤ 9223372036854775807) (ht1 : -9223372036854775808 ≤ t) (ht2 : t ≤ 9223372036854775807) (hvl : IntsZ w vl l) (hvd : Nums w vd d) (hE : M.errC p n0 t l ≠ 0) :
    Calls Try.prog 35 #[suV p n0 t, vl, vd] w fun e w' => e = .returned (.tuple #[.slice none 0 0, .slice none 0 0, .int .i64 (M.errC p n0 t l)]) ∧ Below w.heap.size w w' := by
  have HC := Lib.hid fun W (h : Below w.heap.size w W) => corrupted_any p n0 t vl l W hp hn1 hn2 ht1 ht2 (hvl.below h)
  obtain ⟨_, _, A, cap, rfl, _⟩ := hvl
  obtain ⟨A2, cap2, rfl⟩ := nums_slice' hvd
  obtain ⟨c, ec⟩ : ∃ c, c = M.errC p n0 t l := ⟨_, rfl⟩
  rw [← ec] at HC hE ⊢
  have hcb : (c != 0) = true := by rw [bne_iff_ne]; exact hE
  clear hvd ec hE
  unfold suV at HC ⊢
  go_enter Try.func35, Try.ntmps35
  go_wp2_with fail
  refine (HC.out _ (balloc w _)).mono ?_
  rintro e w1 ⟨rfl, hb⟩
  have B1 := Lib.hid (bnext (balloc w _) hb)
  clear hb
  go_wp2_with fail
  go_ret3
  exact ⟨rfl, B1.out⟩

theorem away_end (p : Nat) (v : Value) (xs : List Nat) (w : World) (hi : M.isP p = true) (hl : xs.length ≤ 200) (hw : M.within p xs = true) (hz : M.NoZ xs) (hn : xs.Nodup) (h : Nums w v xs) :
    Calls Try.prog 67 #[.int .u64 p, v] w fun e w' => ∃ v f, e = .returned (.tuple #[v, .int .i64 0]) ∧ Nums w' v f ∧ M.AwayK p xs xs.length f ∧ Below w.heap.size w w' :=
  (away_any p v xs w h (M.chk_of hi hl hw)).mono fun e w' ⟨a1, _⟩ => by
    obtain ⟨hb, a2 | a2⟩ := a1 hz
    · obtain ⟨_, v, f, rfl, hn, ha⟩ := a2
      exact ⟨v, f, rfl, hn, ha.k, hb⟩
    · exact absurd hn a2.1
def DivEnd7 (p : Nat) (d z : List Nat) (w : World) (e : Ending) (w' : World) : Prop := (M.errW p d ≠ 0 ∧ e = .returned (.tuple #[.slice none 0 0, .slice none 0 0, .int .i64 (M.errW p d)]) ∧ Below w.heap.size w w') ∨ (M.errW p d = 0 ∧ ∃ vq vr q r, e = .returned (.tuple #[vq, vr, .int .i64 0]) ∧ Nums w' vq q ∧ Nums w' vr r ∧ M.IsDiv p (M.trim d) z q r ∧ Below w.heap.size w w')
theorem divide_end (p : Nat) (vd v : Value) (d z xs : List Nat) (w : World) (hi : M.isP p = true) (hl : xs.length ≤ 200) (hz : M.AwayK p xs xs.length z) (h : Nums w vd d) (h2 : Nums w v z) :
    Calls Try.prog 69 #[.int .u64 p, vd, v] w (DivEnd7 p d z w) := by
  obtain ⟨h3, hp⟩ := M.pos_of hi
  have hzl : z.length ≤ 201 := by have := hz.2.2.1; omega
  by_cases hc : M.errW p d = 0
  · have hr : M.rgt p [d, z] = 0 := by rw [M.rgt_two, ← M.errW_chk hi, if_pos hc]; exact M.chk_of hi hzl hz.1
    refine (divide2_ok p vd v d z w h h2 hr).mono ?_
    rintro e w' ⟨vq, vr, c, rfl, hb, _, hg⟩
    obtain ⟨rfl, q, r, hq, hr, hdv⟩ := hg hz.ne
    rw [hz.2.1] at hdv
    exact .inr ⟨hc, vq, vr, q, r, rfl, hq, hr, hdv, hb⟩
  · have hr : M.rgt p [d, z] = M.errW p d := by rw [M.rgt_two, ← M.errW_chk hi, if_neg hc]
    refine (divide2_bad p vd v d z w (by omega) h h2 (by rw [hr]; exact hc)).mono ?_
    rintro e w' ⟨rfl, hb⟩
    rw [hr]
    exact .inl ⟨hc, rfl, hb⟩

/-- what Cut answers for corrupted parties -/
def CutEnd (p : Nat) (l : List Int) (d : List Nat) (w : World) (e : Ending) (w' : World) : Prop :=
  Below w.heap.size w w' ∧ ((M.errW p d ≠ 0 ∧ e = .returned (.tuple #[.slice none 0 0, .slice none 0 0, .int .i64 (M.errW p d)])) ∨
    (M.errW p d = 0 ∧ ∃ z q r, M.AwayK p (M.pts l) (M.pts l).length z ∧ M.IsDiv p (M.trim d) z q r ∧
      ((r ≠ [] ∧ e = .returned (.tuple #[.slice none 0 0, .slice none 0 0, .int .i64 12])) ∨ (r = [] ∧ ∃ vz vq, e = .returned (.tuple #[vz, vq, .int .i64 0]) ∧ Nums w' vz z ∧ Nums w' vq q))))

set_option maxHeartbeats 4000000 in
theorem tcut_any (p T : Nat) (n0 : Int) (vl vd : Value) (l : List Int) (d : List Nat) (w : World) (hn1 : -9223372036854775808 ≤ n0) (hn2 : n0 ≤ 9223372036854775807) (hvl : IntsZ w vl l) (hvd : Nums w vd d) (hE : M.errC p n0 T l = 0) :
    Calls Try.prog 35 #[suV p n0 T, vl, vd] w (CutEnd p l d w) := by
  obtain ⟨hok, hll, hrs⟩ := M.errC_zero hE
  obtain ⟨N, T', rfl, eT, hi, hN1, hN2, hNT, hNp⟩ := M.okS_nat hok
  obtain rfl : T = T' := by omega
  clear eT
  obtain ⟨h3, hp⟩ := M.pos_of hi
  have hpl := M.pts_len l
  have hpw := M.pts_within hrs (show (N : Int) < (p : Int) by omega)
  have HCO := Lib.hid fun W (h : Below w.heap.size w W) => corrupted_any p N T vl l W (by omega) hn1 hn2 (by omega) (by omega) (hvl.below h)
  rw [hE] at HCO
  have HPO := Lib.hid fun W (h : Below w.heap.size w W) => pointsOf_any vl l W (by omega) (fun i hi => by have := M.rises_range hrs hi; omega) (hvl.below h)
  have HAW := Lib.hid fun W V (h : Nums W V (M.pts l)) => away_end p V (M.pts l) W hi (by omega) hpw (M.pts_noz hrs) (M.pts_nodup hrs) h
  have HDV := Lib.hid fun W V z (hz : M.AwayK p (M.pts l) (M.pts l).length z) (h : Below w.heap.size w W) (h2 : Nums W V z) => divide_end p vd V d z (M.pts l) W hi (by omega) hz (hvd.below h) h2
  unfold DivEnd7 at HDV
  unfold CutEnd
  obtain ⟨_, _, Al, cl, rfl, _⟩ := hvl
  obtain ⟨Ad, cd, rfl⟩ := nums_slice' hvd
  have hcb0 : ((0 : Int) != 0) = false := rfl
  obtain ⟨EW, eEW⟩ : ∃ EW, EW = M.errW p d := ⟨_, rfl⟩
  rw [← eEW] at HDV ⊢
  have HB0 := Lib.hid (balloc w (.cells #[.int .u64 p, .int .i64 (N : Nat), .int .i64 (T : Nat)] 24))
  clear hvd hE hok hll hrs hi hpl hpw eEW
  unfold suV at HCO ⊢
  go_enter Try.func35, Try.ntmps35
  go_wp2_with fail
  refine (HCO.out _ HB0.out).mono ?_
  rintro e w1 ⟨rfl, hb1⟩
  have hz1 : w.heap.size < w1.heap.size := by have := hb1.size; simp at this; omega
  have c0 := (hb1.cell (p := ⟨w.heap.size, 0, none⟩) (by simp)).trans (show (w.alloc (.cells #[.int .u64 p, .int .i64 (N : Nat), .int .i64 (T : Nat)] 24)).cell? ⟨w.heap.size, 0, none⟩ = some (.int .u64 (p : Nat)) by simp)
  have hB1 := bnext HB0.out hb1
  have B1 := Lib.hid hB1
  clear hb1 hB1
  go_wp2_with fail
  have HL1 := Lib.hid (Below.refl w1.heap.size w1).drew
  have HP1 := Lib.hid (HPO.out _ B1.out.drew)
  go_region_held3 (fun W' => W'.cell? ⟨w.heap.size, 0, none⟩ = some (.int .u64 (p : Nat)))
    (first | exact c0 | exact f1 | exact f2 | go_keep)
    (first
      | (go_at_call 68; (with_reducible refine HP1.out.mono ?_); rintro e w2 ⟨v2, rfl, hn2, hb2⟩; have f1 := (hb2.cell (p := ⟨w.heap.size, 0, none⟩) hz1).trans c0)
      | (go_at_call 67; (with_reducible refine (HAW.out _ _ hn2).mono ?_); rintro e w3 ⟨v3, z, rfl, hn3, haw, hb3⟩; have f2 := (hb3.cell (p := ⟨w.heap.size, 0, none⟩) (Nat.lt_of_lt_of_le hz1 hb2.size)).trans f1))
  have hB3 := bnext (bnext B1.out (below_of_drew6 hb2)) hb3
  have HB3 := Lib.hid hB3
  have HN3 := Lib.hid hn3
  have HAK := Lib.hid haw
  have HD4 := Lib.hid (HDV.out _ _ z haw hB3 hn3)
  obtain ⟨A3, cc3, rfl⟩ := nums_slice' hn3
  obtain ⟨ZL, eZL⟩ : ∃ ZL, ZL = z.length := ⟨_, rfl⟩
  rw [← eZL] at HN3 HD4 ⊢
  have EZL := Lib.hid eZL
  clear hB3 hb2 hb3 hn2 hn3 haw f1 eZL
  go_wp2_with fail
  refine HD4.out.mono ?_
  rintro e w4 (⟨ec, rfl, hb4⟩ | ⟨ec, vq, vr, q, r, rfl, hq, hr, hdv, hb4⟩)
  · have HB4 := Lib.hid (bnext HB3.out hb4)
    have hcb : (EW != 0) = true := by rw [bne_iff_ne]; exact ec
    have EC := Lib.hid ec
    clear hb4 ec
    go_wp2_with fail
    go_ret3
    exact ⟨HB4.out, .inl ⟨EC.out, rfl⟩⟩
  · have HB4 := Lib.hid (bnext HB3.out hb4)
    have HN4 := Lib.hid (HN3.out.below hb4)
    have HQ4 := Lib.hid hq
    have HDV4 := Lib.hid hdv
    have EC := Lib.hid ec
    obtain ⟨Aq, cq, rfl⟩ := nums_slice' hq
    obtain ⟨Ar, cr, rfl⟩ := nums_slice' hr
    obtain ⟨RL, eRL⟩ : ∃ RL, RL = r.length := ⟨_, rfl⟩
    obtain ⟨QL, eQL⟩ : ∃ QL, QL = q.length := ⟨_, rfl⟩
    rw [← eRL]
    rw [← eQL] at HQ4 ⊢
    have ERL := Lib.hid eRL
    clear hb4 hq hr hdv ec eRL eQL
    by_cases h0 : 0 < RL
    · have hd : decide ((RL : Int) > 0) = true := by rw [decide_eq_true_eq]; omega
      have HR0 := Lib.hid h0
      clear h0
      go_wp2_with fail
      go_ret3
      exact ⟨HB4.out, .inr ⟨EC.out, z, q, r, HAK.out, HDV4.out, .inl ⟨fun e => by have h1 := ERL.out; have h2 := HR0.out; rw [e] at h1; simp at h1; omega, rfl⟩⟩⟩
    · have HR0 := Lib.hid (show r = [] from List.length_eq_zero_iff.1 (by have := ERL.out; omega))
      obtain rfl : RL = 0 := by omega
      clear h0
      go_wp2_with fail
      go_ret3
      exact ⟨HB4.out, .inr ⟨EC.out, z, q, r, HAK.out, HDV4.out, .inr ⟨HR0.out, .slice A3 ZL cc3, .slice Aq QL cq, rfl, HN4.out, HQ4.out⟩⟩⟩
end Go.Proofs.Ytfkepkdfpjaniaa
