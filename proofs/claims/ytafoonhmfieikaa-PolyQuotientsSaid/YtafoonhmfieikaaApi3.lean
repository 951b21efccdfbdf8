/-
  Roots: package poly and the reference.
-/
import Derived.Test.YtafoonhmfieikaaApi2
import Derived.Test.YtafoonhmfieikaaRef2a
namespace Go.Proofs.Ytafoonhmfieikaa
open Go.RowKit
set_option linter.unusedVariables false

theorem own_below {w w' : World} {base : Nat} {e : TypeId} {size : Nat} {v : Value} {n : Nat} {xs : List Value} (h : w.ownsRow base e size v n xs) (hb : Below w.heap.size w w') : w'.ownsRow base e size v n xs := by
  obtain ⟨h1, h2⟩ := h
  refine ⟨h1, ?_⟩
  rcases h2 with h2 | ⟨g, cap, cur, hv, hg, hh, r⟩
  · exact .inl h2
  · exact .inr ⟨g, cap, cur, hv, hg, (hb.block g (Array.getElem?_eq_some_iff.1 hh).1).trans hh, r⟩
theorem vals_snoc (l : List Nat) (k : Nat) : vals (l ++ [k]) = vals l ++ [.int .u64 (k : Nat)] := by simp [vals]

namespace M
def roots (p : Nat) (f : List Nat) : List Nat := rootsTo p f p
end M

set_option maxHeartbeats 400000 in
theorem roots_bad (p : Nat) (v : Value) (f : List Nat) (w : World) (hp : p < 18446744073709551616) (hv : Nums w v f) (h : M.chk p f 201 ≠ 0) :
    Calls Try.prog 49 #[.int .u64 p, v] w (Fails2 w (M.chk p f 201)) := by
  have HC := Lib.hid (check_any p v f 201 w hp (by omega) hv)
  obtain ⟨A, cap, rfl⟩ := nums_slice' hv
  have hb : (M.chk p f 201 != 0) = true := by rw [bne_iff_ne]; exact h
  obtain ⟨c, ec⟩ : ∃ c, c = M.chk p f 201 := ⟨_, rfl⟩
  rw [← ec] at HC hb ⊢
  clear ec h hp
  go_enter Try.func49, Try.ntmps49
  go_wp2_with fail
  refine HC.out.mono ?_
  rintro e w1 ⟨rfl, rfl⟩
  go_wp2_with fail
  go_ret2
  exact ⟨rfl, Below.refl _ _⟩

set_option maxHeartbeats 400000 in
theorem roots_zero (p : Nat) (v : Value) (f : List Nat) (w : World) (hv : Nums w v f) (h : M.chk p f 201 = 0) (hz : M.trim f = []) :
    Calls Try.prog 49 #[.int .u64 p, v] w (Fails2 w 7) := by
  have hp : p < 18446744073709551616 := by have := M.pos_of (M.chk_ok h).1; omega
  have hc := check_any p v f 201 w hp (by omega) hv
  rw [h] at hc
  have HC := Lib.hid hc
  have ht := trim_any v f w hv
  rw [hz] at ht
  have HT := Lib.hid ht
  obtain ⟨A, cap, rfl⟩ := nums_slice' hv
  clear hc h hp ht hz hv
  go_enter Try.func49, Try.ntmps49
  go_wp2_with fail
  refine HC.out.mono ?_
  rintro e w1 ⟨rfl, rfl⟩
  go_wp2_with fail
  refine HT.out.mono ?_
  rintro e w2 ⟨v2, rfl, hn2, hb2⟩
  obtain ⟨A2, cap2, rfl⟩ := nums_slice' hn2
  have B2 := Lib.hid hb2
  clear hb2 hn2
  go_wp2_with fail
  go_ret2
  exact ⟨rfl, B2.out⟩

set_option maxHeartbeats 2000000 in
theorem roots_ok (p : Nat) (v : Value) (f : List Nat) (w : World) (hv : Nums w v f) (h : M.chk p f 201 = 0) (hz : M.trim f ≠ []) :
    Calls Try.prog 49 #[.int .u64 p, v] w (Gives2 w (M.roots p f)) := by
  obtain ⟨hi, hl, hw⟩ := M.chk_ok h
  obtain ⟨h3, hp⟩ := M.pos_of hi
  have hc := check_any p v f 201 w (by omega) (by omega) hv
  rw [h] at hc
  have HC := Lib.hid hc
  have HT := Lib.hid (trim_any v f w hv)
  obtain ⟨g, eg⟩ : ∃ g, g = M.trim f := ⟨_, rfl⟩
  have htg : M.trim g = g := by rw [eg, M.trim_trim]
  have hwg : M.within p g = true := by rw [eg]; exact M.within_trim hw
  have hgl : g.length ≤ 201 := by rw [eg]; exact Nat.le_trans (M.trim_len_le f) hl
  have hg0 : g ≠ [] := by rw [eg]; exact hz
  have hgp : 0 < g.length := by cases g with | nil => exact absurd rfl hg0 | cons a t => simp
  have hre : M.roots p f = M.rootsTo p g p := by unfold M.roots; rw [eg, M.rootsTo_trim]
  have hlen := M.rootsTo_len hi hwg htg hg0
  have hfull := fun k hk hl => M.rootsTo_full hi hwg htg hg0 (k := k) hk hl
  have hsp := fun k hk => M.rootsTo_split p g (k := k) (n := p) hk
  rw [hre]
  rw [← eg] at HT
  have HWG := Lib.hid hwg
  have HFU := Lib.hid hfull
  have HLEN := Lib.hid hlen
  have HSP := Lib.hid hsp
  obtain ⟨A, cap, rfl⟩ := nums_slice' hv
  obtain ⟨i0, hi0, hz0, hz1, hz2⟩ := info_parts infoU64
  have hud : ∀ b : Bool, undef ≠ Value.bool b := fun b h => by cases h
  clear hc h hv hi hw hz hre hwg htg hg0 hfull eg hlen hsp
  go_enter Try.func49, Try.ntmps49
  go_wp2_with fail
  refine HC.out.mono ?_
  rintro e w1 ⟨rfl, rfl⟩
  go_wp2_with fail
  refine HT.out.mono ?_
  rintro e w2 ⟨v2, rfl, hn2, hb2⟩
  obtain ⟨A2, cap2, rfl⟩ := nums_slice' hn2
  have B2 := Lib.hid hb2
  have N2 := Lib.hid hn2
  have hgz : ((g.length : Int) == 0) = false := by rw [beq_eq_false_iff_ne]; omega
  clear hb2 hn2
  go_wp2_with fail
  go_loopw [7, 8] (fun t7 t8 wr => ∃ k : Nat, k ≤ p ∧ t8 = .int .u64 k ∧ wr.ownsRow w2.heap.size 22 1 t7 (M.rootsTo p g k).length (vals (M.rootsTo p g k)) ∧ Below w2.heap.size w2 wr) (fun _ t8 _ => p - (intOf t8).toNat)
  case atStart => exact ⟨0, by omega, rfl, World.ownsRow_nil _ _ _ _, Below.refl _ _⟩
  case round =>
    obtain ⟨k, hk, rfl, hown, hB⟩ := hrel
    have hnl : (M.rootsTo p g k).length < g.length := by
      obtain ⟨t, ht⟩ := HSP.out k hk
      have h1 := HLEN.out
      rw [ht, List.length_append] at h1
      omega
    have hru : ∀ x ∈ M.rootsTo p g k, x < 18446744073709551616 := fun x hx => by have := (M.rootsTo_mem.1 hx).1; omega
    have hNR : Nums wr u7 (M.rootsTo p g k) := nums_of_owns hown hru (by omega)
    have HO := Lib.hid hown
    have HB := Lib.hid hB
    obtain ⟨l, el⟩ : ∃ l, l = M.rootsTo p g k := ⟨_, rfl⟩
    rw [← el] at HO hnl hNR
    obtain ⟨A7, cap7, rfl⟩ := nums_slice' hNR
    have HNR := Lib.hid hNR
    have HEL := Lib.hid el
    clear hown hB hNR el hru
    by_cases hlt : k < p ∧ l.length < g.length - 1
    · obtain ⟨hlt1, hlt2⟩ := hlt
      have hd1 : decide ((k : Int) < (p : Int)) = true := by simp; omega
      have hd2 : decide ((l.length : Int) < (g.length : Int) - 1) = true := by simp; omega
      have hval := value_any p k _ g wr (by omega) hp hlt1 HWG.out (N2.out.below HB.out)
      have hsucc := M.rootsTo_succ p g k
      rw [← HEL.out] at hsucc
      obtain ⟨y, ey⟩ : ∃ y, y = M.pev p g k := ⟨_, rfl⟩
      rw [← ey] at hval hsucc
      have HVAL := Lib.hid hval
      have HSU := Lib.hid hsucc
      clear hval hsucc ey
      by_cases hy0 : y = 0
      · subst hy0
        go_wp2_with fail
        refine HVAL.out.mono ?_
        rintro e w3 ⟨rfl, hb3⟩
        have HROW := Lib.hid (own_below HO.out hb3)
        have HB3 := Lib.hid (HB.out.trans (hb3.mono HB.out.size))
        clear hb3
        go_wp2_with (at_builtin; refine wpList_append_own _ rfl _ _ 23 rfl w2.heap.size 22 i0 (.int .u64 0) 1 8 Try.underlying23 hi0 hz0 hz1 hz2 rfl (by decide) _ _ _ rfl (HROW.out.alloc _) ⟨w3.heap.size, 0, none⟩ 1 1 [.int .u64 (k : Nat)] rfl rfl ?c1 ?c2 ?c3 ?c4 ?c5 ?_)
        case c1 =>
          intro j u hu
          rw [Addr.add_lit]
          match j, hu with
          | 0, hu => simpa using hu
        case c2 => intro u hu; simp at hu; subst hu; rfl
        case c3 => unfold maxLen; omega
        case c4 => omega
        case c5 => have := HB3.out.size; simp; omega
        intro v' w4 hown' hgrow _
        have hlt' := fun r hr => (HROW.out.lt r hr).1
        have HB4 := Lib.hid ((HB3.out.alloc HB3.out.size _).grown hgrow (by have := HB3.out.size; simp; omega) (fun r hr => hlt' r hr))
        rw [← vals_snoc] at hown'
        have HOW := Lib.hid hown'
        clear hown' hgrow hlt'
        go_wp2_with fail
        go_roundw
        case rel =>
          refine ⟨k + 1, by omega, by go_num, ?_, HB4.out⟩
          rw [HSU.out, if_pos (by simp), List.length_append]
          exact HOW.out
        case measure => simp [intOf]; omega
      · have hyb : ((y : Int) == 0) = false := by rw [beq_eq_false_iff_ne]; omega
        have H0 := Lib.hid hy0
        clear hy0
        go_wp2_with fail
        refine HVAL.out.mono ?_
        rintro e w3 ⟨rfl, hb3⟩
        have HROW := Lib.hid (own_below HO.out hb3)
        have HB3 := Lib.hid (HB.out.trans (hb3.mono HB.out.size))
        clear hb3
        go_wp2_with fail
        go_roundw
        case rel =>
          refine ⟨k + 1, by omega, by go_num, ?_, HB3.out⟩
          rw [HSU.out, if_neg H0.out, List.append_nil]
          exact HROW.out
        case measure => simp [intOf]; omega
    · have hend : l = M.rootsTo p g p := by
        rw [HEL.out]
        by_cases hkp : k < p
        · exact HFU.out k hk (by rw [← HEL.out]; omega)
        · obtain rfl : k = p := by omega
          rfl
      have HEND := Lib.hid hend
      by_cases hkp : k < p
      · have hd1 : decide ((k : Int) < (p : Int)) = true := by simp; omega
        have hd2 : decide ((l.length : Int) < (g.length : Int) - 1) = false := by simp; omega
        clear hend
        go_wp2_with fail
        go_ret2
        exact ⟨_, rfl, by rw [← HEND.out]; exact HNR.out, B2.out.trans (HB.out.mono B2.out.size)⟩
      · have hd1 : decide ((k : Int) < (p : Int)) = false := by simp; omega
        clear hend
        go_wp2_with fail
        go_ret2
        exact ⟨_, rfl, by rw [← HEND.out]; exact HNR.out, B2.out.trans (HB.out.mono B2.out.size)⟩

/-! ### the reference's Roots -/
set_option maxHeartbeats 2000000 in
theorem rroots_any (p : Nat) (v : Value) (f : List Nat) (w : World) (h2 : 1 < p) (hp : p ≤ 65537) (hw : M.within p f = true) (hv : Nums w v f) :
    Calls Try.prog 50 #[.int .u64 p, v] w (Gives w (M.roots p f)) := by
  have HV := Lib.hid hv
  have HW := Lib.hid hw
  obtain ⟨A, cap, rfl⟩ := nums_slice' hv
  obtain ⟨i0, hi0, hz0, hz1, hz2⟩ := info_parts infoU64
  have hlr : ∀ k, (M.rootsTo p f k).length ≤ k := fun k => by unfold M.rootsTo; have := List.length_filter_le (fun x => M.pev p f x == 0) (List.range k); simpa using this
  have HLR := Lib.hid hlr
  clear hv hw hlr
  go_enter Try.func50, Try.ntmps50
  go_wp2_with fail
  go_loopw [5, 6] (fun t7 t8 wr => ∃ k : Nat, k ≤ p ∧ t8 = .int .u64 k ∧ wr.ownsRow w.heap.size 22 1 t7 (M.rootsTo p f k).length (vals (M.rootsTo p f k)) ∧ Below w.heap.size w wr) (fun _ t8 _ => p - (intOf t8).toNat)
  case atStart => exact ⟨0, by omega, rfl, World.ownsRow_nil _ _ _ _, Below.refl _ _⟩
  case round =>
    obtain ⟨k, hk, rfl, hown, hB⟩ := hrel
    have hnl := HLR.out k
    have hru : ∀ x ∈ M.rootsTo p f k, x < 18446744073709551616 := fun x hx => by have := (M.rootsTo_mem.1 hx).1; omega
    have hNR : Nums wr u5 (M.rootsTo p f k) := nums_of_owns hown hru (by omega)
    have HO := Lib.hid hown
    have HB := Lib.hid hB
    obtain ⟨l, el⟩ : ∃ l, l = M.rootsTo p f k := ⟨_, rfl⟩
    rw [← el] at HO hnl hNR
    obtain ⟨A7, cap7, rfl⟩ := nums_slice' hNR
    have HNR := Lib.hid hNR
    have HEL := Lib.hid el
    clear hown hB hNR el hru
    by_cases hlt : k < p
    · have hval := reval_any p k _ f wr h2 hp hlt HW.out (HV.out.at (Nat.le_refl _) HB.out HV.out)
      have hsucc := M.rootsTo_succ p f k
      rw [← HEL.out] at hsucc
      obtain ⟨y, ey⟩ : ∃ y, y = M.pev p f k := ⟨_, rfl⟩
      rw [← ey] at hval hsucc
      have HVAL := Lib.hid hval
      have HSU := Lib.hid hsucc
      clear hval hsucc ey
      by_cases hy0 : y = 0
      · subst hy0
        go_wp2_with fail
        refine HVAL.out.mono ?_
        rintro e w3 ⟨rfl, rfl⟩
        go_wp2_with (at_builtin; refine wpList_append_own _ rfl _ _ 23 rfl w.heap.size 22 i0 (.int .u64 0) 1 8 Try.underlying23 hi0 hz0 hz1 hz2 rfl (by decide) _ _ _ rfl (HO.out.alloc _) ⟨wr.heap.size, 0, none⟩ 1 1 [.int .u64 (k : Nat)] rfl rfl ?c1 ?c2 ?c3 ?c4 ?c5 ?_)
        case c1 =>
          intro j u hu
          rw [Addr.add_lit]
          match j, hu with
          | 0, hu => simpa using hu
        case c2 => intro u hu; simp at hu; subst hu; rfl
        case c3 => unfold maxLen; omega
        case c4 => omega
        case c5 => have := HB.out.size; simp; omega
        intro v' w4 hown' hgrow _
        have hlt' := fun r hr => (HO.out.lt r hr).1
        have HB4 := Lib.hid ((HB.out.alloc HB.out.size _).grown hgrow (by have := HB.out.size; simp; omega) (fun r hr => hlt' r hr))
        rw [← vals_snoc] at hown'
        have HOW := Lib.hid hown'
        clear hown' hgrow hlt'
        go_wp2_with fail
        go_roundw
        case rel =>
          refine ⟨k + 1, by omega, by go_num, ?_, HB4.out⟩
          rw [HSU.out, if_pos (by simp), List.length_append]
          exact HOW.out
        case measure => simp [intOf]; omega
      · have hyb : ((y : Int) == 0) = false := by rw [beq_eq_false_iff_ne]; omega
        have H0 := Lib.hid hy0
        clear hy0
        go_wp2_with fail
        refine HVAL.out.mono ?_
        rintro e w3 ⟨rfl, rfl⟩
        go_wp2_with fail
        go_roundw
        case rel =>
          refine ⟨k + 1, by omega, by go_num, ?_, HB.out⟩
          rw [HSU.out, if_neg H0.out, List.append_nil]
          exact HO.out
        case measure => simp [intOf]; omega
    · obtain rfl : k = p := by omega
      go_wp2_with fail
      go_ret
      exact ⟨_, rfl, by unfold M.roots; rw [← HEL.out]; exact HNR.out, HB.out⟩
end Go.Proofs.Ytafoonhmfieikaa
