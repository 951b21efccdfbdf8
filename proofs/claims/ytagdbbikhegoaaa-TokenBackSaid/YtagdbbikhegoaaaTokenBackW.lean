/-
  The walk of TokenBack: what is written is read back.
-/
import Derived.Test.YtagdbbikhegoaaaL8
import Derived.Test.YtagdbbikhegoaaaBk8
import Derived.Test.YtagdbbikhegoaaaKz
namespace Go.Proofs.Ytagdbbikhegoaaa
open Go.RowKit
set_option linter.unusedVariables false
set_option maxRecDepth 100000
theorem writeE_zero {ts : List T8} (h : writeE ts = 0) : ts.all okT = true ∧ ¬ 20000 < (M.joinL (textsT ts)).length := by
  unfold writeE at h
  split at h
  · cases h
  · split at h
    · cases h
    · rename_i h2
      split at h
      · cases h
      · rename_i h3
        exact ⟨by simpa using h2, h3⟩
theorem write_size {ts : List T8} {T : ByteArray} (h : M.bs T = if writeE ts = 0 then M.joinL (textsT ts) else []) : T.size ≤ 20000 := by
  rw [← M.bs_len, h]
  split
  · rename_i h0
    have := (writeE_zero h0).2
    omega
  · simp
theorem sound_size {A : List T8} (h : A.all okT = true) : ∀ t ∈ A, t.text.size ≤ 140737488351232 := fun t ht => by
  have := M.tok_short (okT_tok (List.all_eq_true.1 h t ht)).1
  rw [M.bs_len] at this
  omega
namespace tokenBackW
set_option maxHeartbeats 8000000 in
theorem walk (W : World) (v0 : Value) (l : List T8) (hv0 : TokS W v0 l) (hl : TokIn l) (s : ByteArray) (hs : s.size ≤ 140737488351232) :
    Calls Try.prog 6 #[v0, .string s] W fun e w' => e = .returned (.bool true) ∧ Below W.heap.size W w' := by
  have hud : ∀ b : Bool, undef ≠ Value.bool b := fun b h => by cases h
  have RD := Lib.hid fun (s : ByteArray) w (hs : s.size ≤ 20000) => read_any s w (by omega)
  have R1 := Lib.hid (read_any s W hs)
  have AL := Lib.hid fun w => alive_any w
  have W0 := Lib.hid fun w (h : Below W.heap.size W w) => write_any v0 l w (hv0.below h) (fun t ht => (hl t ht).1)
  have H0 := Lib.hid hv0
  clear hv0 hl hs
  go_enter Try.func6, Try.ntmps6
  go_wp2_with fail
  (with_reducible refine (R1.out).mono ?_)
  rintro e w1 ⟨A, ts, v, p, E, rfl, hv, hr, h1, h2, hb⟩
  have B1 := Lib.hid hb
  by_cases hE : E = 0
  · subst hE
    have hsnd := read_sound (h1 rfl) hr
    have W1 := Lib.hid (write_any v A w1 hv (sound_size hsnd))
    have HV := Lib.hid hv
    clear hr h1 h2 hb hsnd hv
    go_wp2_with fail
    (with_reducible refine (W1.out).mono ?_)
    rintro e w2 ⟨T2, rfl, hT2, hb2⟩
    have B2 := Lib.hid (bnext8 B1.out hb2)
    have HV2 := Lib.hid (HV.out.below hb2)
    obtain ⟨F2, eF2⟩ : ∃ F, F = writeE A := ⟨_, rfl⟩
    have hT2s := write_size hT2
    have R2 := Lib.hid (RD.out T2 w2 hT2s)
    rw [← eF2] at hT2 ⊢
    have HE2 := Lib.hid eF2
    have HT2 := Lib.hid hT2
    clear hT2 hb2 eF2 hT2s W1 HV
    go_wp2_with fail
    (with_reducible refine (R2.out).mono ?_)
    rintro e w3 ⟨A3, ts3, v3, p3, E3, rfl, hv3, hr3, h31, h32, hb3⟩
    have B3 := Lib.hid (bnext8 B2.out hb3)
    have HV3 := Lib.hid (HV2.out.below hb3)
    by_cases hF2 : F2 = 0
    · subst hF2
      have hok := writeE_zero HE2.out.symm
      have hj2 : M.bs T2 = M.joinL (textsT A) := by have := HT2.out; rwa [if_pos rfl] at this
      rw [hj2] at hr3
      obtain ⟨rfl, rfl, hlen3, hsame3, hrise3⟩ := back8 hok.1 hok.2 hr3 h31
      have SB := Lib.hid (rsameF_any v3 v A3 A w3 hv3 HV3.out hlen3 hsame3)
      clear hok hj2 hr3 h31 h32 hb3 hsame3 hrise3 hlen3 hv3 HV2 R2
      go_wp2_with fail
      (with_reducible refine (SB.out).mono ?_)
      rintro e w4 ⟨rfl, hb4⟩
      have B4 := Lib.hid (bnext8 B3.out hb4)
      clear hb4 SB HV3
      go_wp2_with fail
      (with_reducible refine (W0.out _ B4.out).mono ?_)
      rintro e w5 ⟨T5, rfl, hT5, hb⟩
      have B5 := Lib.hid (bnext8 B4.out hb)
      obtain ⟨F5, eF5⟩ : ∃ F, F = writeE l := ⟨_, rfl⟩
      have hT5s := write_size hT5
      rw [← eF5] at hT5 ⊢
      have HE5 := Lib.hid eF5
      have R5 := Lib.hid (RD.out T5 w5 hT5s)
      have HT5 := Lib.hid hT5
      clear hT5 hb eF5 hT5s
      by_cases hF5 : F5 = 0
      · subst hF5
        have hok := writeE_zero HE5.out.symm
        have hj5 : M.bs T5 = M.joinL (textsT l) := by have := HT5.out; rwa [if_pos rfl] at this
        go_wp2_with fail
        (with_reducible refine (R5.out).mono ?_)
        rintro e w6 ⟨A6, ts6, v6, p6, E6, rfl, hv6, hr6, h61, h62, hb6⟩
        rw [hj5] at hr6
        obtain ⟨rfl, rfl, hlen6, hsame6, hrise6⟩ := back8 hok.1 hok.2 hr6 h61
        have B6 := Lib.hid (bnext8 B5.out hb6)
        have SA := Lib.hid (rsameF_any v6 v0 A6 l w6 hv6 (H0.out.below B6.out) hlen6 hsame6)
        have HV6 := Lib.hid hv6
        have HR6 := Lib.hid hrise6
        clear hok hj5 hr6 h61 h62 hb6 hsame6 hrise6 hv6 hlen6
        go_wp2_with fail
        (with_reducible refine (SA.out).mono ?_)
        rintro e w7 ⟨rfl, hb7⟩
        have B7 := Lib.hid (bnext8 B6.out hb7)
        have HV7 := Lib.hid (HV6.out.below hb7)
        obtain ⟨hl7, Aa7, cap7, rfl, hcap7, hcells7⟩ := id HV7.out
        have HC7 := Lib.hid hcells7
        clear hb7 HV6 hcells7 HV7 SA
        go_wp2_with fail
        go_loopw [18] (fun ti wr => ∃ j : Nat, (j + 1 ≤ A6.length ∨ j = 0) ∧ ti = .int .i64 ((j : Int) + 1) ∧ Below w7.heap.size w7 wr) (fun ti _ => A6.length + 1 - (intOf ti).toNat)
        case atStart => exact ⟨0, .inr rfl, by go_num, Below.refl _ _⟩
        case round =>
          obtain ⟨j, hj, rfl, hB⟩ := hrel
          have HB := Lib.hid hB
          by_cases hlt : j + 1 < A6.length
          · obtain ⟨b, off, rfl, hbl, hcell⟩ := HC7.out (by omega)
            have p1 := (hB.cell (p := ⟨b, off + (j + 1) * 3 + 2, none⟩) hbl).trans (hcell (j + 1) hlt).2.2
            have p0 := (hB.cell (p := ⟨b, off + j * 3 + 2, none⟩) hbl).trans (hcell j (by omega)).2.2
            have hr := HR6.out j hlt
            obtain ⟨o0, eo0⟩ : ∃ o, o = (A6.getD j T8.no).off := ⟨_, rfl⟩
            obtain ⟨o1, eo1⟩ : ∃ o, o = (A6.getD (j + 1) T8.no).off := ⟨_, rfl⟩
            rw [← eo1] at p1 hr
            rw [← eo0] at p0 hr
            have g1 : decide (o1 ≤ o0) = false := by rw [decide_eq_false_iff_not]; omega
            have g2 : decide ((j : Int) + 1 < (A6.length : Int)) = true := by rw [decide_eq_true_eq]; omega
            have hBD := Lib.hid hB.drew
            have f1 : (0 : Int) ≤ (j : Int) := by omega
            have f2 : (j : Int) < (A6.length : Int) := by omega
            have f3 : (j : Int) + 1 < (A6.length : Int) := by omega
            have f4 : (0 : Int) ≤ (j : Int) + 1 := by omega
            clear hcell eo0 eo1 hr hB
            have hwr : IntKind.i64.wrap ((j : Int) + 1 - 1) = (j : Int) := by rw [IntKind.wrap_i64]; omega
            go_wp2_with fail
            go_region
            go_wp2_with fail
            go_roundw
            case rel => exact ⟨j + 1, by omega, by go_num, hBD.out⟩
            case measure => simp [intOf]; omega
          · go_wp2_with fail
            (with_reducible refine (AL.out _).mono ?_)
            rintro e w8 ⟨rfl, hb8⟩
            have B8 := Lib.hid (bnext8 (bnext8 B7.out hB) hb8)
            go_wp2_with fail
            go_ret
            exact ⟨rfl, B8.out⟩
      · have hF51 : (F5 != 0) = true := by rw [bne_iff_ne]; exact hF5
        have hemp : T5.toList.isEmpty = true := by
          have h := HT5.out
          rw [if_neg hF5] at h
          rw [M.empty_is, ← M.bs_len, h]; rfl
        clear HT5
        go_wp2_with fail
        (with_reducible refine (AL.out _).mono ?_)
        rintro e w8 ⟨rfl, hb8⟩
        have B8 := Lib.hid (bnext8 B5.out hb8)
        go_wp2_with fail
        go_ret
        exact ⟨rfl, B8.out⟩
    · have hF21 : (F2 == 0) = false := by rw [beq_eq_false_iff_ne]; exact hF2
      clear hr3 h31 h32 hb3 hv3 HV2 R2 HV3
      go_wp2_with fail
      (with_reducible refine (W0.out _ B3.out).mono ?_)
      rintro e w5 ⟨T5, rfl, hT5, hb⟩
      have B5 := Lib.hid (bnext8 B3.out hb)
      obtain ⟨F5, eF5⟩ : ∃ F, F = writeE l := ⟨_, rfl⟩
      have hT5s := write_size hT5
      rw [← eF5] at hT5 ⊢
      have HE5 := Lib.hid eF5
      have R5 := Lib.hid (RD.out T5 w5 hT5s)
      have HT5 := Lib.hid hT5
      clear hT5 hb eF5 hT5s
      by_cases hF5 : F5 = 0
      · subst hF5
        have hok := writeE_zero HE5.out.symm
        have hj5 : M.bs T5 = M.joinL (textsT l) := by have := HT5.out; rwa [if_pos rfl] at this
        go_wp2_with fail
        (with_reducible refine (R5.out).mono ?_)
        rintro e w6 ⟨A6, ts6, v6, p6, E6, rfl, hv6, hr6, h61, h62, hb6⟩
        rw [hj5] at hr6
        obtain ⟨rfl, rfl, hlen6, hsame6, hrise6⟩ := back8 hok.1 hok.2 hr6 h61
        have B6 := Lib.hid (bnext8 B5.out hb6)
        have SA := Lib.hid (rsameF_any v6 v0 A6 l w6 hv6 (H0.out.below B6.out) hlen6 hsame6)
        have HV6 := Lib.hid hv6
        have HR6 := Lib.hid hrise6
        clear hok hj5 hr6 h61 h62 hb6 hsame6 hrise6 hv6 hlen6
        go_wp2_with fail
        (with_reducible refine (SA.out).mono ?_)
        rintro e w7 ⟨rfl, hb7⟩
        have B7 := Lib.hid (bnext8 B6.out hb7)
        have HV7 := Lib.hid (HV6.out.below hb7)
        obtain ⟨hl7, Aa7, cap7, rfl, hcap7, hcells7⟩ := id HV7.out
        have HC7 := Lib.hid hcells7
        clear hb7 HV6 hcells7 HV7 SA
        go_wp2_with fail
        go_loopw [18] (fun ti wr => ∃ j : Nat, (j + 1 ≤ A6.length ∨ j = 0) ∧ ti = .int .i64 ((j : Int) + 1) ∧ Below w7.heap.size w7 wr) (fun ti _ => A6.length + 1 - (intOf ti).toNat)
        case atStart => exact ⟨0, .inr rfl, by go_num, Below.refl _ _⟩
        case round =>
          obtain ⟨j, hj, rfl, hB⟩ := hrel
          have HB := Lib.hid hB
          by_cases hlt : j + 1 < A6.length
          · obtain ⟨b, off, rfl, hbl, hcell⟩ := HC7.out (by omega)
            have p1 := (hB.cell (p := ⟨b, off + (j + 1) * 3 + 2, none⟩) hbl).trans (hcell (j + 1) hlt).2.2
            have p0 := (hB.cell (p := ⟨b, off + j * 3 + 2, none⟩) hbl).trans (hcell j (by omega)).2.2
            have hr := HR6.out j hlt
            obtain ⟨o0, eo0⟩ : ∃ o, o = (A6.getD j T8.no).off := ⟨_, rfl⟩
            obtain ⟨o1, eo1⟩ : ∃ o, o = (A6.getD (j + 1) T8.no).off := ⟨_, rfl⟩
            rw [← eo1] at p1 hr
            rw [← eo0] at p0 hr
            have g1 : decide (o1 ≤ o0) = false := by rw [decide_eq_false_iff_not]; omega
            have g2 : decide ((j : Int) + 1 < (A6.length : Int)) = true := by rw [decide_eq_true_eq]; omega
            have hBD := Lib.hid hB.drew
            have f1 : (0 : Int) ≤ (j : Int) := by omega
            have f2 : (j : Int) < (A6.length : Int) := by omega
            have f3 : (j : Int) + 1 < (A6.length : Int) := by omega
            have f4 : (0 : Int) ≤ (j : Int) + 1 := by omega
            clear hcell eo0 eo1 hr hB
            have hwr : IntKind.i64.wrap ((j : Int) + 1 - 1) = (j : Int) := by rw [IntKind.wrap_i64]; omega
            go_wp2_with fail
            go_region
            go_wp2_with fail
            go_roundw
            case rel => exact ⟨j + 1, by omega, by go_num, hBD.out⟩
            case measure => simp [intOf]; omega
          · go_wp2_with fail
            (with_reducible refine (AL.out _).mono ?_)
            rintro e w8 ⟨rfl, hb8⟩
            have B8 := Lib.hid (bnext8 (bnext8 B7.out hB) hb8)
            go_wp2_with fail
            go_ret
            exact ⟨rfl, B8.out⟩
      · have hF51 : (F5 != 0) = true := by rw [bne_iff_ne]; exact hF5
        have hemp : T5.toList.isEmpty = true := by
          have h := HT5.out
          rw [if_neg hF5] at h
          rw [M.empty_is, ← M.bs_len, h]; rfl
        clear HT5
        go_wp2_with fail
        (with_reducible refine (AL.out _).mono ?_)
        rintro e w8 ⟨rfl, hb8⟩
        have B8 := Lib.hid (bnext8 B5.out hb8)
        go_wp2_with fail
        go_ret
        exact ⟨rfl, B8.out⟩
  · have hE1 : (E == 0) = false := by rw [beq_eq_false_iff_ne]; exact hE
    clear hr h1 h2 hb hv
    go_wp2_with fail
    (with_reducible refine (W0.out _ B1.out).mono ?_)
    rintro e w5 ⟨T5, rfl, hT5, hb⟩
    have B5 := Lib.hid (bnext8 B1.out hb)
    obtain ⟨F5, eF5⟩ : ∃ F, F = writeE l := ⟨_, rfl⟩
    have hT5s := write_size hT5
    rw [← eF5] at hT5 ⊢
    have HE5 := Lib.hid eF5
    have R5 := Lib.hid (RD.out T5 w5 hT5s)
    have HT5 := Lib.hid hT5
    clear hT5 hb eF5 hT5s
    by_cases hF5 : F5 = 0
    · subst hF5
      have hok := writeE_zero HE5.out.symm
      have hj5 : M.bs T5 = M.joinL (textsT l) := by have := HT5.out; rwa [if_pos rfl] at this
      go_wp2_with fail
      (with_reducible refine (R5.out).mono ?_)
      rintro e w6 ⟨A6, ts6, v6, p6, E6, rfl, hv6, hr6, h61, h62, hb6⟩
      rw [hj5] at hr6
      obtain ⟨rfl, rfl, hlen6, hsame6, hrise6⟩ := back8 hok.1 hok.2 hr6 h61
      have B6 := Lib.hid (bnext8 B5.out hb6)
      have SA := Lib.hid (rsameF_any v6 v0 A6 l w6 hv6 (H0.out.below B6.out) hlen6 hsame6)
      have HV6 := Lib.hid hv6
      have HR6 := Lib.hid hrise6
      clear hok hj5 hr6 h61 h62 hb6 hsame6 hrise6 hv6 hlen6
      go_wp2_with fail
      (with_reducible refine (SA.out).mono ?_)
      rintro e w7 ⟨rfl, hb7⟩
      have B7 := Lib.hid (bnext8 B6.out hb7)
      have HV7 := Lib.hid (HV6.out.below hb7)
      obtain ⟨hl7, Aa7, cap7, rfl, hcap7, hcells7⟩ := id HV7.out
      have HC7 := Lib.hid hcells7
      clear hb7 HV6 hcells7 HV7 SA
      go_wp2_with fail
      go_loopw [18] (fun ti wr => ∃ j : Nat, (j + 1 ≤ A6.length ∨ j = 0) ∧ ti = .int .i64 ((j : Int) + 1) ∧ Below w7.heap.size w7 wr) (fun ti _ => A6.length + 1 - (intOf ti).toNat)
      case atStart => exact ⟨0, .inr rfl, by go_num, Below.refl _ _⟩
      case round =>
        obtain ⟨j, hj, rfl, hB⟩ := hrel
        have HB := Lib.hid hB
        by_cases hlt : j + 1 < A6.length
        · obtain ⟨b, off, rfl, hbl, hcell⟩ := HC7.out (by omega)
          have p1 := (hB.cell (p := ⟨b, off + (j + 1) * 3 + 2, none⟩) hbl).trans (hcell (j + 1) hlt).2.2
          have p0 := (hB.cell (p := ⟨b, off + j * 3 + 2, none⟩) hbl).trans (hcell j (by omega)).2.2
          have hr := HR6.out j hlt
          obtain ⟨o0, eo0⟩ : ∃ o, o = (A6.getD j T8.no).off := ⟨_, rfl⟩
          obtain ⟨o1, eo1⟩ : ∃ o, o = (A6.getD (j + 1) T8.no).off := ⟨_, rfl⟩
          rw [← eo1] at p1 hr
          rw [← eo0] at p0 hr
          have g1 : decide (o1 ≤ o0) = false := by rw [decide_eq_false_iff_not]; omega
          have g2 : decide ((j : Int) + 1 < (A6.length : Int)) = true := by rw [decide_eq_true_eq]; omega
          have hBD := Lib.hid hB.drew
          have f1 : (0 : Int) ≤ (j : Int) := by omega
          have f2 : (j : Int) < (A6.length : Int) := by omega
          have f3 : (j : Int) + 1 < (A6.length : Int) := by omega
          have f4 : (0 : Int) ≤ (j : Int) + 1 := by omega
          clear hcell eo0 eo1 hr hB
          have hwr : IntKind.i64.wrap ((j : Int) + 1 - 1) = (j : Int) := by rw [IntKind.wrap_i64]; omega
          go_wp2_with fail
          go_region
          go_wp2_with fail
          go_roundw
          case rel => exact ⟨j + 1, by omega, by go_num, hBD.out⟩
          case measure => simp [intOf]; omega
        · go_wp2_with fail
          (with_reducible refine (AL.out _).mono ?_)
          rintro e w8 ⟨rfl, hb8⟩
          have B8 := Lib.hid (bnext8 (bnext8 B7.out hB) hb8)
          go_wp2_with fail
          go_ret
          exact ⟨rfl, B8.out⟩
    · have hF51 : (F5 != 0) = true := by rw [bne_iff_ne]; exact hF5
      have hemp : T5.toList.isEmpty = true := by
        have h := HT5.out
        rw [if_neg hF5] at h
        rw [M.empty_is, ← M.bs_len, h]; rfl
      clear HT5
      go_wp2_with fail
      (with_reducible refine (AL.out _).mono ?_)
      rintro e w8 ⟨rfl, hb8⟩
      have B8 := Lib.hid (bnext8 B5.out hb8)
      go_wp2_with fail
      go_ret
      exact ⟨rfl, B8.out⟩
end tokenBackW
end Go.Proofs.Ytagdbbikhegoaaa
