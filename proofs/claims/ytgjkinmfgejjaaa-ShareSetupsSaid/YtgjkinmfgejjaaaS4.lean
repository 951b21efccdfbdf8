/-
  Package share: forParties, over each of its three closures.
-/
import Derived.Test.YtgjkinmfgejjaaaS2
namespace Go.Proofs.Ytgjkinmfgejjaaa
open Go.RowKit
set_option linter.unusedVariables false
set_option maxRecDepth 100000

/-- every block that was there stands as it stood, but for block g -/
def Keeps (g : Nat) (w w' : World) : Prop := w.heap.size ≤ w'.heap.size ∧ ∀ B, B < w.heap.size → B ≠ g → w'.heap[B]? = w.heap[B]?
theorem Keeps.of_below {w w' : World} (h : Below w.heap.size w w') (g : Nat) : Keeps g w w' := ⟨h.size, fun B hB _ => h.block B hB⟩
theorem Rw.keeps {w w' : World} {B n g : Nat} {F : Nat → Nat} (h : Rw w B n F) (hk : Keeps g w w') (hB : B < w.heap.size) (hg : B ≠ g) : Rw w' B n F := fun i hi =>
  ⟨(World.cell?_of_block (w := w) (a := ⟨B, i, none⟩) (hk.2 B hB hg)).trans (h i hi).1, (World.frozen?_of_block (w := w) (a := ⟨B, i, none⟩) (hk.2 B hB hg)).trans (h i hi).2⟩
theorem own_lt {w : World} {base B n cap : Nat} {l : List Value} (h : w.ownsRow base 22 1 (.slice (some ⟨B, 0, none⟩) n cap) n l) : base ≤ B ∧ B < w.heap.size := h.lt B rfl

/-- what forParties hands back: F told for every party, or the first party's error -/
def Parties (p N : Nat) (F : Nat → Nat) (E : Nat → Int) (b0 : Nat) (w : World) (e : Ending) (w' : World) : Prop :=
  (∃ v, e = .returned (.tuple #[v, .int .i64 0]) ∧ Nums w' v (M.tabM N F) ∧ (∀ k, k < N → E k = 0) ∧ Below b0 w w') ∨
  (∃ k, k < N ∧ E k ≠ 0 ∧ (∀ j, j < k → E j = 0) ∧ e = .returned (.tuple #[.slice none 0 0, .int .i64 (E k)]) ∧ Below b0 w w')

set_option maxHeartbeats 2000000 in
theorem forParties_shares (p N : Nat) (t : Int) (a0 a1 : Addr) (F : Nat → Nat) (E : Nat → Int) (J : World → Prop) (b0 g : Nat) (w : World) (hok : M.okS p (N : Int) t = true) (hb0 : b0 ≤ w.heap.size) (hg : g < w.heap.size) (hJ : J w)
    (hJk : ∀ W W', J W → Below w.heap.size W W' → J W') (hF : ∀ k, k < N → F k < 18446744073709551616)
    (hop : ∀ W (k : Nat), k < N → J W → w.heap.size ≤ W.heap.size → Calls Try.prog 60 #[.int .i64 ((k : Int) + 1), .pointer (some a0), .pointer (some a1)] W fun e W' => e = .returned (.tuple #[.int .u64 (F k : Nat), .int .i64 (E k)]) ∧ J W' ∧ Below b0 W W' ∧ Keeps g W W') :
    Calls Try.prog 59 #[suV p (N : Int) t, .func (.func 60) #[] #[.pointer (some a0), .pointer (some a1)]] w fun e w' => Parties p N F E b0 w e w' := by
  obtain ⟨hi, hn1, hn2, ht1, ht2, hnp⟩ := M.okS_iff.1 hok
  obtain ⟨h3, hp⟩ := M.pos_of hi
  have hC := fun W => setup_any p (N : Int) t W (by omega) (by omega) (by omega) (by omega) (by omega)
  rw [← M.errS_ok hok] at hC
  have HC := Lib.hid hC
  have HB := Lib.hid (balloc w (Obj.cells #[Value.int IntKind.u64 p, Value.int IntKind.i64 N, Value.int IntKind.i64 t] 24))
  have HOP := Lib.hid hop
  have HJ := Lib.hid hJ
  have HJK := Lib.hid hJk
  have HF := Lib.hid hF
  have hud : ∀ b : Bool, undef ≠ Value.bool b := fun b h => by cases h
  obtain ⟨i0, hi0, hz0, hz1, hz2⟩ := info_parts infoU64
  unfold suV at HC ⊢
  clear hC hi hop hJ hJk hF hok
  go_enter Try.func59, Try.ntmps59
  go_wp2_with fail
  refine (HC.out _).mono ?_
  rintro e w1 ⟨rfl, hb1⟩
  have B1 := Lib.hid (bnext HB.out hb1)
  have S1 := B1.out.size
  have c1 : w1.cell? ⟨w.heap.size, 1, none⟩ = some (.int .i64 N) := by
    refine (hb1.cell (p := ⟨w.heap.size, 1, none⟩) (by simp)).trans (by simp)
  clear hb1
  go_wp2_with (refine wpList_make_full _ rfl _ _ 31 rfl w1.heap.size 22 i0 (.int .u64 0) 1 Try.underlying31 hi0 hz0 hz1 .i64 .i64 _ _ N rfl rfl rfl rfl ?c1 ?c2 ?c3 ?_)
  case c1 => rw [hz2]; omega
  case c2 => unfold maxLen; omega
  case c3 => exact Nat.le_refl _
  intro w2 hown hgrow
  rw [toList_madeCells_one] at hown
  have S2 := Lib.hid ((Below.refl w1.heap.size w1).grown hgrow (Nat.le_refl _) (by simp))
  have HB2 := Lib.hid (B1.out.trans (S2.out.mono S1))
  have hr2 := Rw.start hown rfl
  have HR2 := Lib.hid hr2
  have L2 := (own_lt hown).2
  have HJ2 := Lib.hid (HJK.out _ _ HJ.out HB2.out)
  obtain ⟨B, eB⟩ : ∃ B, w1.heap.size = B := ⟨_, rfl⟩
  rw [eB] at HR2 L2 S1 ⊢
  clear hown hgrow hr2 eB S2 c1
  go_wp2_with fail
  go_loopw [21] (fun ti wr => ∃ k : Nat, k ≤ N ∧ ti = .int .i64 k ∧ J wr ∧ B < wr.heap.size ∧ Below b0 w wr ∧ Rw wr B N (fun i => if i < k then F i else 0) ∧ ∀ j, j < k → E j = 0) (fun ti _ => N - (intOf ti).toNat)
  case atStart => exact ⟨0, by omega, rfl, HJ2.out, L2, HB2.out.mono hb0, HR2.out.congr (fun i hi => by simp), fun j hj => absurd hj (by omega)⟩
  case round =>
    obtain ⟨k, hk, rfl, hj, hlt2, hB, hr, he⟩ := hrel
    have HJr := Lib.hid hj
    have HBr := Lib.hid hB
    have HRr := Lib.hid hr
    have HE := Lib.hid he
    clear hj hB hr he
    by_cases hlt : k < N
    · have hwr : w.heap.size ≤ wr.heap.size := by omega
      have HO := Lib.hid (HOP.out wr k hlt HJr.out hwr)
      by_cases hek : E k = 0
      · have hek' := HE.out
        rw [hek] at HO
        obtain ⟨x, ex⟩ : ∃ x, x = F k := ⟨_, rfl⟩
        rw [← ex] at HO
        have hx64 := HF.out k hlt
        rw [← ex] at hx64
        have HX := Lib.hid ex
        have HEK := Lib.hid hek
        have hkn : (k : Int) < (N : Nat) := by omega
        clear ex hek hek'
        go_wp2_with fail
        refine HO.out.mono ?_
        rintro e w3 ⟨rfl, hj3, hb3, hk3⟩
        have hrr : Rw w3 B N (fun i => if i < k then F i else 0) := HRr.out.keeps hk3 hlt2 (by omega)
        have HR3 := Lib.hid hrr
        have c3 := (hrr k hlt).1
        have f3 := (hrr k hlt).2
        have HS := Lib.hid (hrr.set hlt x)
        have HB3 := Lib.hid (HBr.out.trans hb3)
        have HJ3 := Lib.hid (HJK.out _ _ hj3 ((Below.refl w.heap.size w3).setCell (p := ⟨B, k, none⟩) S1 (.int .u64 (x : Nat))))
        have hl3 : B < w3.heap.size := by have := hk3.1; omega
        clear hj3 hb3 hk3 hrr HO
        go_wp2_with fail
        go_roundw
        case rel =>
          refine ⟨k + 1, by omega, by go_num, HJ3.out, by simp; omega, HB3.out.setCell (p := ⟨B, k, none⟩) (by simp; omega) _, HS.out.congr (fun i hi => ?_), fun j hj => ?_⟩
          · by_cases h : i = k
            · subst h; rw [if_pos rfl, if_pos (by omega)]; exact HX.out
            · rw [if_neg h]
              by_cases h2 : i < k
              · rw [if_pos h2, if_pos (by omega)]
              · rw [if_neg h2, if_neg (by omega)]
          · by_cases h : j = k
            · subst h; exact HEK.out
            · exact HE.out j (by omega)
        case measure => simp [intOf]; omega
      · obtain ⟨c, ec⟩ : ∃ c, c = E k := ⟨_, rfl⟩
        have hb : (c != 0) = true := by rw [bne_iff_ne, ec]; exact hek
        rw [← ec] at HO
        have HEC := Lib.hid ec
        have hkn : (k : Int) < (N : Nat) := by omega
        have HEK := Lib.hid hek
        clear ec hek
        go_wp2_with fail
        refine HO.out.mono ?_
        rintro e w3 ⟨rfl, hj3, hb3, hk3⟩
        have HB3 := Lib.hid (HBr.out.trans hb3)
        clear hj3 hb3 hk3 HO
        go_wp2_with fail
        go_ret2
        exact .inr ⟨k, hlt, HEK.out, HE.out, by rw [← HEC.out]; rfl, HB3.out⟩
    · obtain rfl : k = N := by omega
      go_wp2_with fail
      go_ret2
      refine .inl ⟨_, rfl, ?_, HE.out, HBr.out⟩
      have := HRr.out.nums hlt2 (by omega) (fun i hi => by rw [if_pos hi]; exact HF.out i hi)
      rw [tab_congr (G := F) (fun i hi => by rw [if_pos hi])] at this
      exact this

set_option maxHeartbeats 2000000 in
theorem forParties_sum (p N : Nat) (t : Int) (a0 a1 a2 : Addr) (F : Nat → Nat) (E : Nat → Int) (J : World → Prop) (b0 g : Nat) (w : World) (hok : M.okS p (N : Int) t = true) (hb0 : b0 ≤ w.heap.size) (hg : g < w.heap.size) (hJ : J w)
    (hJk : ∀ W W', J W → Below w.heap.size W W' → J W') (hF : ∀ k, k < N → F k < 18446744073709551616)
    (hop : ∀ W (k : Nat), k < N → J W → w.heap.size ≤ W.heap.size → Calls Try.prog 64 #[.int .i64 ((k : Int) + 1), .pointer (some a0), .pointer (some a1), .pointer (some a2)] W fun e W' => e = .returned (.tuple #[.int .u64 (F k : Nat), .int .i64 (E k)]) ∧ J W' ∧ Below b0 W W' ∧ Keeps g W W') :
    Calls Try.prog 59 #[suV p (N : Int) t, .func (.func 64) #[] #[.pointer (some a0), .pointer (some a1), .pointer (some a2)]] w fun e w' => Parties p N F E b0 w e w' := by
  obtain ⟨hi, hn1, hn2, ht1, ht2, hnp⟩ := M.okS_iff.1 hok
  obtain ⟨h3, hp⟩ := M.pos_of hi
  have hC := fun W => setup_any p (N : Int) t W (by omega) (by omega) (by omega) (by omega) (by omega)
  rw [← M.errS_ok hok] at hC
  have HC := Lib.hid hC
  have HB := Lib.hid (balloc w (Obj.cells #[Value.int IntKind.u64 p, Value.int IntKind.i64 N, Value.int IntKind.i64 t] 24))
  have HOP := Lib.hid hop
  have HJ := Lib.hid hJ
  have HJK := Lib.hid hJk
  have HF := Lib.hid hF
  have hud : ∀ b : Bool, undef ≠ Value.bool b := fun b h => by cases h
  obtain ⟨i0, hi0, hz0, hz1, hz2⟩ := info_parts infoU64
  unfold suV at HC ⊢
  clear hC hi hop hJ hJk hF hok
  go_enter Try.func59, Try.ntmps59
  go_wp2_with fail
  refine (HC.out _).mono ?_
  rintro e w1 ⟨rfl, hb1⟩
  have B1 := Lib.hid (bnext HB.out hb1)
  have S1 := B1.out.size
  have c1 : w1.cell? ⟨w.heap.size, 1, none⟩ = some (.int .i64 N) := by
    refine (hb1.cell (p := ⟨w.heap.size, 1, none⟩) (by simp)).trans (by simp)
  clear hb1
  go_wp2_with (refine wpList_make_full _ rfl _ _ 31 rfl w1.heap.size 22 i0 (.int .u64 0) 1 Try.underlying31 hi0 hz0 hz1 .i64 .i64 _ _ N rfl rfl rfl rfl ?c1 ?c2 ?c3 ?_)
  case c1 => rw [hz2]; omega
  case c2 => unfold maxLen; omega
  case c3 => exact Nat.le_refl _
  intro w2 hown hgrow
  rw [toList_madeCells_one] at hown
  have S2 := Lib.hid ((Below.refl w1.heap.size w1).grown hgrow (Nat.le_refl _) (by simp))
  have HB2 := Lib.hid (B1.out.trans (S2.out.mono S1))
  have hr2 := Rw.start hown rfl
  have HR2 := Lib.hid hr2
  have L2 := (own_lt hown).2
  have HJ2 := Lib.hid (HJK.out _ _ HJ.out HB2.out)
  obtain ⟨B, eB⟩ : ∃ B, w1.heap.size = B := ⟨_, rfl⟩
  rw [eB] at HR2 L2 S1 ⊢
  clear hown hgrow hr2 eB S2 c1
  go_wp2_with fail
  go_loopw [21] (fun ti wr => ∃ k : Nat, k ≤ N ∧ ti = .int .i64 k ∧ J wr ∧ B < wr.heap.size ∧ Below b0 w wr ∧ Rw wr B N (fun i => if i < k then F i else 0) ∧ ∀ j, j < k → E j = 0) (fun ti _ => N - (intOf ti).toNat)
  case atStart => exact ⟨0, by omega, rfl, HJ2.out, L2, HB2.out.mono hb0, HR2.out.congr (fun i hi => by simp), fun j hj => absurd hj (by omega)⟩
  case round =>
    obtain ⟨k, hk, rfl, hj, hlt2, hB, hr, he⟩ := hrel
    have HJr := Lib.hid hj
    have HBr := Lib.hid hB
    have HRr := Lib.hid hr
    have HE := Lib.hid he
    clear hj hB hr he
    by_cases hlt : k < N
    · have hwr : w.heap.size ≤ wr.heap.size := by omega
      have HO := Lib.hid (HOP.out wr k hlt HJr.out hwr)
      by_cases hek : E k = 0
      · have hek' := HE.out
        rw [hek] at HO
        obtain ⟨x, ex⟩ : ∃ x, x = F k := ⟨_, rfl⟩
        rw [← ex] at HO
        have hx64 := HF.out k hlt
        rw [← ex] at hx64
        have HX := Lib.hid ex
        have HEK := Lib.hid hek
        have hkn : (k : Int) < (N : Nat) := by omega
        clear ex hek hek'
        go_wp2_with fail
        refine HO.out.mono ?_
        rintro e w3 ⟨rfl, hj3, hb3, hk3⟩
        have hrr : Rw w3 B N (fun i => if i < k then F i else 0) := HRr.out.keeps hk3 hlt2 (by omega)
        have HR3 := Lib.hid hrr
        have c3 := (hrr k hlt).1
        have f3 := (hrr k hlt).2
        have HS := Lib.hid (hrr.set hlt x)
        have HB3 := Lib.hid (HBr.out.trans hb3)
        have HJ3 := Lib.hid (HJK.out _ _ hj3 ((Below.refl w.heap.size w3).setCell (p := ⟨B, k, none⟩) S1 (.int .u64 (x : Nat))))
        have hl3 : B < w3.heap.size := by have := hk3.1; omega
        clear hj3 hb3 hk3 hrr HO
        go_wp2_with fail
        go_roundw
        case rel =>
          refine ⟨k + 1, by omega, by go_num, HJ3.out, by simp; omega, HB3.out.setCell (p := ⟨B, k, none⟩) (by simp; omega) _, HS.out.congr (fun i hi => ?_), fun j hj => ?_⟩
          · by_cases h : i = k
            · subst h; rw [if_pos rfl, if_pos (by omega)]; exact HX.out
            · rw [if_neg h]
              by_cases h2 : i < k
              · rw [if_pos h2, if_pos (by omega)]
              · rw [if_neg h2, if_neg (by omega)]
          · by_cases h : j = k
            · subst h; exact HEK.out
            · exact HE.out j (by omega)
        case measure => simp [intOf]; omega
      · obtain ⟨c, ec⟩ : ∃ c, c = E k := ⟨_, rfl⟩
        have hb : (c != 0) = true := by rw [bne_iff_ne, ec]; exact hek
        rw [← ec] at HO
        have HEC := Lib.hid ec
        have hkn : (k : Int) < (N : Nat) := by omega
        have HEK := Lib.hid hek
        clear ec hek
        go_wp2_with fail
        refine HO.out.mono ?_
        rintro e w3 ⟨rfl, hj3, hb3, hk3⟩
        have HB3 := Lib.hid (HBr.out.trans hb3)
        clear hj3 hb3 hk3 HO
        go_wp2_with fail
        go_ret2
        exact .inr ⟨k, hlt, HEK.out, HE.out, by rw [← HEC.out]; rfl, HB3.out⟩
    · obtain rfl : k = N := by omega
      go_wp2_with fail
      go_ret2
      refine .inl ⟨_, rfl, ?_, HE.out, HBr.out⟩
      have := HRr.out.nums hlt2 (by omega) (fun i hi => by rw [if_pos hi]; exact HF.out i hi)
      rw [tab_congr (G := F) (fun i hi => by rw [if_pos hi])] at this
      exact this

set_option maxHeartbeats 2000000 in
theorem forParties_scale (p N : Nat) (t : Int) (a0 a1 a2 : Addr) (F : Nat → Nat) (E : Nat → Int) (J : World → Prop) (b0 g : Nat) (w : World) (hok : M.okS p (N : Int) t = true) (hb0 : b0 ≤ w.heap.size) (hg : g < w.heap.size) (hJ : J w)
    (hJk : ∀ W W', J W → Below w.heap.size W W' → J W') (hF : ∀ k, k < N → F k < 18446744073709551616)
    (hop : ∀ W (k : Nat), k < N → J W → w.heap.size ≤ W.heap.size → Calls Try.prog 66 #[.int .i64 ((k : Int) + 1), .pointer (some a0), .pointer (some a1), .pointer (some a2)] W fun e W' => e = .returned (.tuple #[.int .u64 (F k : Nat), .int .i64 (E k)]) ∧ J W' ∧ Below b0 W W' ∧ Keeps g W W') :
    Calls Try.prog 59 #[suV p (N : Int) t, .func (.func 66) #[] #[.pointer (some a0), .pointer (some a1), .pointer (some a2)]] w fun e w' => Parties p N F E b0 w e w' := by
  obtain ⟨hi, hn1, hn2, ht1, ht2, hnp⟩ := M.okS_iff.1 hok
  obtain ⟨h3, hp⟩ := M.pos_of hi
  have hC := fun W => setup_any p (N : Int) t W (by omega) (by omega) (by omega) (by omega) (by omega)
  rw [← M.errS_ok hok] at hC
  have HC := Lib.hid hC
  have HB := Lib.hid (balloc w (Obj.cells #[Value.int IntKind.u64 p, Value.int IntKind.i64 N, Value.int IntKind.i64 t] 24))
  have HOP := Lib.hid hop
  have HJ := Lib.hid hJ
  have HJK := Lib.hid hJk
  have HF := Lib.hid hF
  have hud : ∀ b : Bool, undef ≠ Value.bool b := fun b h => by cases h
  obtain ⟨i0, hi0, hz0, hz1, hz2⟩ := info_parts infoU64
  unfold suV at HC ⊢
  clear hC hi hop hJ hJk hF hok
  go_enter Try.func59, Try.ntmps59
  go_wp2_with fail
  refine (HC.out _).mono ?_
  rintro e w1 ⟨rfl, hb1⟩
  have B1 := Lib.hid (bnext HB.out hb1)
  have S1 := B1.out.size
  have c1 : w1.cell? ⟨w.heap.size, 1, none⟩ = some (.int .i64 N) := by
    refine (hb1.cell (p := ⟨w.heap.size, 1, none⟩) (by simp)).trans (by simp)
  clear hb1
  go_wp2_with (refine wpList_make_full _ rfl _ _ 31 rfl w1.heap.size 22 i0 (.int .u64 0) 1 Try.underlying31 hi0 hz0 hz1 .i64 .i64 _ _ N rfl rfl rfl rfl ?c1 ?c2 ?c3 ?_)
  case c1 => rw [hz2]; omega
  case c2 => unfold maxLen; omega
  case c3 => exact Nat.le_refl _
  intro w2 hown hgrow
  rw [toList_madeCells_one] at hown
  have S2 := Lib.hid ((Below.refl w1.heap.size w1).grown hgrow (Nat.le_refl _) (by simp))
  have HB2 := Lib.hid (B1.out.trans (S2.out.mono S1))
  have hr2 := Rw.start hown rfl
  have HR2 := Lib.hid hr2
  have L2 := (own_lt hown).2
  have HJ2 := Lib.hid (HJK.out _ _ HJ.out HB2.out)
  obtain ⟨B, eB⟩ : ∃ B, w1.heap.size = B := ⟨_, rfl⟩
  rw [eB] at HR2 L2 S1 ⊢
  clear hown hgrow hr2 eB S2 c1
  go_wp2_with fail
  go_loopw [21] (fun ti wr => ∃ k : Nat, k ≤ N ∧ ti = .int .i64 k ∧ J wr ∧ B < wr.heap.size ∧ Below b0 w wr ∧ Rw wr B N (fun i => if i < k then F i else 0) ∧ ∀ j, j < k → E j = 0) (fun ti _ => N - (intOf ti).toNat)
  case atStart => exact ⟨0, by omega, rfl, HJ2.out, L2, HB2.out.mono hb0, HR2.out.congr (fun i hi => by simp), fun j hj => absurd hj (by omega)⟩
  case round =>
    obtain ⟨k, hk, rfl, hj, hlt2, hB, hr, he⟩ := hrel
    have HJr := Lib.hid hj
    have HBr := Lib.hid hB
    have HRr := Lib.hid hr
    have HE := Lib.hid he
    clear hj hB hr he
    by_cases hlt : k < N
    · have hwr : w.heap.size ≤ wr.heap.size := by omega
      have HO := Lib.hid (HOP.out wr k hlt HJr.out hwr)
      by_cases hek : E k = 0
      · have hek' := HE.out
        rw [hek] at HO
        obtain ⟨x, ex⟩ : ∃ x, x = F k := ⟨_, rfl⟩
        rw [← ex] at HO
        have hx64 := HF.out k hlt
        rw [← ex] at hx64
        have HX := Lib.hid ex
        have HEK := Lib.hid hek
        have hkn : (k : Int) < (N : Nat) := by omega
        clear ex hek hek'
        go_wp2_with fail
        refine HO.out.mono ?_
        rintro e w3 ⟨rfl, hj3, hb3, hk3⟩
        have hrr : Rw w3 B N (fun i => if i < k then F i else 0) := HRr.out.keeps hk3 hlt2 (by omega)
        have HR3 := Lib.hid hrr
        have c3 := (hrr k hlt).1
        have f3 := (hrr k hlt).2
        have HS := Lib.hid (hrr.set hlt x)
        have HB3 := Lib.hid (HBr.out.trans hb3)
        have HJ3 := Lib.hid (HJK.out _ _ hj3 ((Below.refl w.heap.size w3).setCell (p := ⟨B, k, none⟩) S1 (.int .u64 (x : Nat))))
        have hl3 : B < w3.heap.size := by have := hk3.1; omega
        clear hj3 hb3 hk3 hrr HO
        go_wp2_with fail
        go_roundw
        case rel =>
          refine ⟨k + 1, by omega, by go_num, HJ3.out, by simp; omega, HB3.out.setCell (p := ⟨B, k, none⟩) (by simp; omega) _, HS.out.congr (fun i hi => ?_), fun j hj => ?_⟩
          · by_cases h : i = k
            · subst h; rw [if_pos rfl, if_pos (by omega)]; exact HX.out
            · rw [if_neg h]
              by_cases h2 : i < k
              · rw [if_pos h2, if_pos (by omega)]
              · rw [if_neg h2, if_neg (by omega)]
          · by_cases h : j = k
            · subst h; exact HEK.out
            · exact HE.out j (by omega)
        case measure => simp [intOf]; omega
      · obtain ⟨c, ec⟩ : ∃ c, c = E k := ⟨_, rfl⟩
        have hb : (c != 0) = true := by rw [bne_iff_ne, ec]; exact hek
        rw [← ec] at HO
        have HEC := Lib.hid ec
        have hkn : (k : Int) < (N : Nat) := by omega
        have HEK := Lib.hid hek
        clear ec hek
        go_wp2_with fail
        refine HO.out.mono ?_
        rintro e w3 ⟨rfl, hj3, hb3, hk3⟩
        have HB3 := Lib.hid (HBr.out.trans hb3)
        clear hj3 hb3 hk3 HO
        go_wp2_with fail
        go_ret2
        exact .inr ⟨k, hlt, HEK.out, HE.out, by rw [← HEC.out]; rfl, HB3.out⟩
    · obtain rfl : k = N := by omega
      go_wp2_with fail
      go_ret2
      refine .inl ⟨_, rfl, ?_, HE.out, HBr.out⟩
      have := HRr.out.nums hlt2 (by omega) (fun i hi => by rw [if_pos hi]; exact HF.out i hi)
      rw [tab_congr (G := F) (fun i hi => by rw [if_pos hi])] at this
      exact this
end Go.Proofs.Ytgjkinmfgejjaaa
