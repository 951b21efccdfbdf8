/-
  Package decode: Decode and Best.
-/
import Derived.Test.YtfgfapbhgehfiaaD6
import Derived.Outline
namespace Go.Proofs.Ytfgfapbhgehfiaa
open Go.RowKit
set_option linter.unusedVariables false
set_option maxRecDepth 100000

namespace M
/-- the error of Decode's arguments -/
def decE (p : Nat) (d wr : Int) (xs ys : List Nat) : Int := if dchk p d xs ys ≠ 0 then dchk p d xs ys else if wr < 0 then 2 else if most xs.length d < wr then 11 else 0
/-- the error of Best's arguments -/
def bestE (p : Nat) (d : Int) (xs ys : List Nat) : Int := if dchk p d xs ys ≠ 0 then dchk p d xs ys else if most xs.length d < 0 then 11 else 0
theorem decE_ok {p : Nat} {d wr : Int} {xs ys : List Nat} (h : decE p d wr xs ys = 0) : ∃ D q : Nat, d = D ∧ wr = q ∧ DOk p D xs ys ∧ D + 1 + 2 * q ≤ xs.length := by
  unfold decE at h
  split at h
  · rename_i h1; exact absurd h h1
  · rename_i h1
    obtain ⟨D, rfl, hok⟩ := dchk_zero (p := p) (d := d) (xs := xs) (ys := ys) (by omega)
    split at h
    · cases h
    · split at h
      · cases h
      · rename_i h2 h3
        unfold most at h3
        split at h3
        · omega
        · exact ⟨D, wr.toNat, rfl, by omega, hok, by omega⟩
theorem bestE_ok {p : Nat} {d : Int} {xs ys : List Nat} (h : bestE p d xs ys = 0) : ∃ D : Nat, d = D ∧ DOk p D xs ys ∧ D + 1 ≤ xs.length := by
  unfold bestE at h
  split at h
  · rename_i h1; exact absurd h h1
  · rename_i h1
    obtain ⟨D, rfl, hok⟩ := dchk_zero (p := p) (d := d) (xs := xs) (ys := ys) (by omega)
    split at h
    · cases h
    · rename_i h2
      unfold most at h2
      split at h2
      · omega
      · exact ⟨D, rfl, hok, by omega⟩
theorem most_nat {n D : Nat} (h : D + 1 ≤ n) : most n D = ((n - D - 1) / 2 : Nat) := by
  unfold most
  rw [if_neg (by omega)]
  omega
end M

set_option maxHeartbeats 2000000 in
theorem decode_fail (p : Nat) (d wr : Int) (v : Value) (xs ys : List Nat) (w : World) (hp : p < 18446744073709551616) (hd1 : -9223372036854775808 ≤ d) (hd2 : d ≤ 9223372036854775807) (hw1 : -9223372036854775808 ≤ wr) (hw2 : wr ≤ 9223372036854775807) (hv : Pts w v xs ys) (h : M.decE p d wr xs ys ≠ 0) :
    Calls Try.prog 17 #[.int .u64 p, .int .i64 d, .int .i64 wr, v] w fun e w' => e = .returned (.tuple #[.slice none 0 0, .slice none 0 0, .int .i64 (M.decE p d wr xs ys)]) ∧ Below w.heap.size w w' := by
  have hud : ∀ b : Bool, undef ≠ Value.bool b := fun b h => by cases h
  have HC := Lib.hid (dcheck_any p d v xs ys w hp hv)
  have hlen := hv.2.1
  obtain ⟨A, cap, rfl, _⟩ := hv.2.2.2.2
  by_cases hc : M.dchk p d xs ys = 0
  · have hM := fun W => most_any xs.length d W (by omega) (by omega) hd1 hd2
    by_cases hneg : wr < 0
    · have hE : M.decE p d wr xs ys = 2 := by unfold M.decE; rw [if_neg (by simp [hc]), if_pos hneg]
      rw [hE]
      rw [hc] at HC
      clear hc h hE hM hv
      go_enter Try.func17, Try.ntmps17
      go_wp2_with fail
      refine HC.out.mono ?_
      rintro e w1 ⟨rfl, hb⟩
      have B1 := Lib.hid hb
      clear hb
      go_wp2
      go_ret3
      exact ⟨rfl, B1.out⟩
    · have hE : M.decE p d wr xs ys = if M.most xs.length d < wr then 11 else 0 := by unfold M.decE; rw [if_neg (by simp [hc]), if_neg hneg]
      have hlt : M.most xs.length d < wr := by
        apply Classical.byContradiction
        intro hn
        rw [hE, if_neg hn] at h
        exact h rfl
      rw [hE, if_pos hlt]
      rw [hc] at HC
      obtain ⟨m, em⟩ : ∃ m, m = M.most xs.length d := ⟨_, rfl⟩
      rw [← em] at hM hlt
      have HM := Lib.hid hM
      clear hc h hE hM hv em
      go_enter Try.func17, Try.ntmps17
      go_wp2_with fail
      refine HC.out.mono ?_
      rintro e w1 ⟨rfl, hb⟩
      have B1 := Lib.hid hb
      clear hb
      go_wp2_with (go_at_call 15; refine (HM.out _).mono ?_; rintro e w2 ⟨rfl, rfl⟩)
      --PEEK
      go_ret3
      exact ⟨rfl, B1.out⟩
  · have hE : M.decE p d wr xs ys = M.dchk p d xs ys := by unfold M.decE; rw [if_pos hc]
    rw [hE]
    obtain ⟨c, ec⟩ : ∃ c, c = M.dchk p d xs ys := ⟨_, rfl⟩
    rw [← ec] at HC hc ⊢
    clear hE h hv ec
    go_enter Try.func17, Try.ntmps17
    go_wp2_with fail
    refine HC.out.mono ?_
    rintro e w1 ⟨rfl, hb⟩
    have B1 := Lib.hid hb
    clear hb
    go_wp2
    go_ret3
    exact ⟨rfl, B1.out⟩

set_option maxHeartbeats 2000000 in
theorem decode_ok (p d q : Nat) (v : Value) (xs ys : List Nat) (w : World) (hok : M.DOk p d xs ys) (hn : d + 1 + 2 * q ≤ xs.length) (hv : Pts w v xs ys) :
    Calls Try.prog 17 #[.int .u64 p, .int .i64 d, .int .i64 q, v] w (DecEnd w p d q xs ys) := by
  have hud : ∀ b : Bool, undef ≠ Value.bool b := fun b h => by cases h
  have hp := M.pos_of hok.isp
  have hl := hok.len
  have hc := dcheck_any p d v xs ys w (by omega) hv
  rw [hok.chk] at hc
  have HC := Lib.hid hc
  have HK := Lib.hid fun W (hW : Pts W v xs ys) => correct_any p d q v xs ys W hok hn hW
  have HV := Lib.hid hv
  have hM := fun W => most_any xs.length d W (by omega) (by omega) (by omega) (by omega)
  rw [M.most_nat (by omega)] at hM
  obtain ⟨m, em⟩ : ∃ m, m = (xs.length - d - 1) / 2 := ⟨_, rfl⟩
  have hqm : ¬ (m : Int) < q := by omega
  rw [← em] at hM
  have HM := Lib.hid hM
  obtain ⟨A, cap, rfl, _⟩ := hv.2.2.2.2
  clear hc hM hv hok em
  unfold DecEnd
  go_enter Try.func17, Try.ntmps17
  go_wp2_with fail
  refine HC.out.mono ?_
  rintro e w1 ⟨rfl, hb⟩
  have B1 := Lib.hid hb
  have HK1 := Lib.hid (HK.out w1 (HV.out.below hb))
  clear hb
  go_wp2_with (go_at_call 15; refine (HM.out _).mono ?_; rintro e w2 ⟨rfl, rfl⟩)
  refine HK1.out.mono ?_
  rintro e w2 ⟨hb, ⟨f, v1, u, hg, rfl, hf, ho⟩ | ⟨hno, rfl⟩⟩
  · have B2 := Lib.hid (bnext B1.out hb)
    have H1 := Lib.hid hg
    have H2 := Lib.hid hf
    have H3 := Lib.hid (own_down ho B1.out.size)
    clear hb hg hf ho
    go_wp2
    go_ret3
    exact ⟨B2.out, .inl ⟨f, _, _, H1.out, rfl, H2.out, H3.out⟩⟩
  · have B2 := Lib.hid (bnext B1.out hb)
    have H1 := Lib.hid hno
    clear hb hno
    go_wp2
    go_ret3
    exact ⟨B2.out, .inr ⟨H1.out, rfl⟩⟩

set_option maxHeartbeats 2000000 in
theorem best_fail (p : Nat) (d : Int) (v : Value) (xs ys : List Nat) (w : World) (hp : p < 18446744073709551616) (hd1 : -9223372036854775808 ≤ d) (hd2 : d ≤ 9223372036854775807) (hv : Pts w v xs ys) (h : M.bestE p d xs ys ≠ 0) :
    Calls Try.prog 21 #[.int .u64 p, .int .i64 d, v] w fun e w' => e = .returned (.tuple #[.slice none 0 0, .slice none 0 0, .int .i64 (M.bestE p d xs ys)]) ∧ Below w.heap.size w w' := by
  have hud : ∀ b : Bool, undef ≠ Value.bool b := fun b h => by cases h
  have HC := Lib.hid (dcheck_any p d v xs ys w hp hv)
  have hlen := hv.2.1
  obtain ⟨A, cap, rfl, _⟩ := hv.2.2.2.2
  by_cases hc : M.dchk p d xs ys = 0
  · have hM := fun W => most_any xs.length d W (by omega) (by omega) hd1 hd2
    have hE : M.bestE p d xs ys = if M.most xs.length d < 0 then 11 else 0 := by unfold M.bestE; rw [if_neg (by simp [hc])]
    have hlt : M.most xs.length d < 0 := by
      apply Classical.byContradiction
      intro hn
      rw [hE, if_neg hn] at h
      exact h rfl
    rw [hE, if_pos hlt]
    rw [hc] at HC
    obtain ⟨m, em⟩ : ∃ m, m = M.most xs.length d := ⟨_, rfl⟩
    rw [← em] at hM hlt
    have HM := Lib.hid hM
    clear hc h hE hM hv em
    go_enter Try.func21, Try.ntmps21
    go_wp2_with fail
    refine HC.out.mono ?_
    rintro e w1 ⟨rfl, hb⟩
    have B1 := Lib.hid hb
    clear hb
    go_wp2_with (go_at_call 15; refine (HM.out _).mono ?_; rintro e w2 ⟨rfl, rfl⟩)
    go_ret3
    exact ⟨rfl, B1.out⟩
  · have hE : M.bestE p d xs ys = M.dchk p d xs ys := by unfold M.bestE; rw [if_pos hc]
    rw [hE]
    obtain ⟨c, ec⟩ : ∃ c, c = M.dchk p d xs ys := ⟨_, rfl⟩
    rw [← ec] at HC hc ⊢
    clear hE h hv ec
    go_enter Try.func21, Try.ntmps21
    go_wp2_with fail
    refine HC.out.mono ?_
    rintro e w1 ⟨rfl, hb⟩
    have B1 := Lib.hid hb
    clear hb
    go_wp2
    go_ret3
    exact ⟨rfl, B1.out⟩

set_option maxHeartbeats 2000000 in
theorem best_ok (p d : Nat) (v : Value) (xs ys : List Nat) (w : World) (hok : M.DOk p d xs ys) (hn : d + 1 ≤ xs.length) (hv : Pts w v xs ys) :
    Calls Try.prog 21 #[.int .u64 p, .int .i64 d, v] w (DecEnd w p d ((xs.length - d - 1) / 2) xs ys) := by
  have hud : ∀ b : Bool, undef ≠ Value.bool b := fun b h => by cases h
  have hp := M.pos_of hok.isp
  have hl := hok.len
  have hc := dcheck_any p d v xs ys w (by omega) hv
  rw [hok.chk] at hc
  have HC := Lib.hid hc
  have HK := Lib.hid fun W (hW : Pts W v xs ys) => correct_any p d ((xs.length - d - 1) / 2) v xs ys W hok (by omega) hW
  have HV := Lib.hid hv
  have hM := fun W => most_any xs.length d W (by omega) (by omega) (by omega) (by omega)
  rw [M.most_nat (by omega)] at hM
  obtain ⟨m, em⟩ : ∃ m, m = (xs.length - d - 1) / 2 := ⟨_, rfl⟩
  rw [← em] at hM HK ⊢
  have HM := Lib.hid hM
  obtain ⟨A, cap, rfl, _⟩ := hv.2.2.2.2
  clear hc hM hv hok em
  unfold DecEnd
  go_enter Try.func21, Try.ntmps21
  go_wp2_with fail
  refine HC.out.mono ?_
  rintro e w1 ⟨rfl, hb⟩
  have B1 := Lib.hid hb
  have HK1 := Lib.hid (HK.out w1 (HV.out.below hb))
  clear hb
  go_wp2_with (go_at_call 15; refine (HM.out _).mono ?_; rintro e w2 ⟨rfl, rfl⟩)
  refine HK1.out.mono ?_
  rintro e w2 ⟨hb, ⟨f, v1, u, hg, rfl, hf, ho⟩ | ⟨hno, rfl⟩⟩
  · have B2 := Lib.hid (bnext B1.out hb)
    have H1 := Lib.hid hg
    have H2 := Lib.hid hf
    have H3 := Lib.hid (own_down ho B1.out.size)
    clear hb hg hf ho
    go_wp2
    go_ret3
    exact ⟨B2.out, .inl ⟨f, _, _, H1.out, rfl, H2.out, H3.out⟩⟩
  · have B2 := Lib.hid (bnext B1.out hb)
    have H1 := Lib.hid hno
    clear hb hno
    go_wp2
    go_ret3
    exact ⟨B2.out, .inr ⟨H1.out, rfl⟩⟩
end Go.Proofs.Ytfgfapbhgehfiaa
