/-
  Tokens: the program's Read.
-/
import Derived.OwnWalk
import Derived.Test.YtagdbbikhegoaaaDoorKw
import Derived.Test.YtagdbbikhegoaaaDoorKt
namespace Go.Proofs.YtagdbbikhegoaaaDoor
open Go.RowKit
set_option linter.unusedVariables false
set_option maxRecDepth 100000
theorem M.skipAt_zero (L : List Nat) (i : Nat) (h : i ≤ L.length) : M.skipAt L i = i + M.skipAt (L.drop i) 0 := by
  have h1 := (M.skipL_suffix (L.drop i)).length_le
  rw [List.length_drop] at h1
  unfold M.skipAt
  rw [List.drop_zero, List.length_drop]
  omega
theorem M.word_len {L : List Nat} {k : Int} {t : List Nat} (h : M.wordL L = (0, k, t)) : 1 ≤ t.length ∧ t.length ≤ L.length := by
  obtain ⟨_, h1, rest, h2⟩ := M.word_tok h
  have h3 := List.length_pos_iff.2 h1
  rw [h2, List.length_append]
  omega

set_option maxHeartbeats 4000000 in
theorem read_any (s : ByteArray) (w : World) (hs : s.size ≤ 140737488351232) : Calls Tryd.prog 14 #[.string s] w (ReadEnd s w) := by
  have hud : ∀ b : Bool, undef ≠ Value.bool b := fun b h => by cases h
  have LEN := Lib.hid (M.bs_len s)
  have HB0 := Lib.hid (Below.refl w.heap.size w)
  by_cases hbig : 20000 < s.size
  · go_enter Tryd.func14, Tryd.ntmps14
    go_wp2_with fail
    go_ret3
    exact read_long hbig HB0.out
  have hd20 : decide ((s.size : Int) > 20000) = false := by rw [decide_eq_false_iff_not]; omega
  have hd21 : decide (20000 < (s.size : Int)) = false := by rw [decide_eq_false_iff_not]; omega
  have HS := Lib.hid (show s.size ≤ 20000 by omega)
  have GA := Lib.hid fun (t : ByteArray) (w : World) (ht : t.size ≤ 140737488351232) => gap_any t w ht
  have FI := Lib.hid fun (t : ByteArray) (w : World) (ht : t.size ≤ 140737488351232) => first_any t w ht
  obtain ⟨i0, hi0, hz0, hz1, hz2⟩ : ∃ i, Tryd.prog.info? 39 = some i ∧ i.zero = some (.agg #[.int .i64 0, .string ⟨#[]⟩, .int .i64 0]) ∧ i.size = 3 ∧ i.bytes = 32 := by
    have h := infoTok
    cases hq : Tryd.prog.info? 39 with
    | none => rw [hq] at h; cases h
    | some i => rw [hq] at h; simp only [Option.map_some, Option.some.injEq, Prod.mk.injEq] at h; exact ⟨i, rfl, h.1, h.2.1, h.2.2⟩
  obtain ⟨a0, ea⟩ : ∃ a, a = M.skipAt (M.bs s) 0 := ⟨_, rfl⟩
  have G0 := Lib.hid (GA.out s w hs)
  rw [← ea] at G0
  have HA := Lib.hid ea
  have ha0 : a0 ≤ s.size := by rw [ea, ← M.bs_len]; exact M.skipAt_le _ _
  clear ea hs hbig
  go_enter Tryd.func14, Tryd.ntmps14
  go_wp2_with fail
  (with_reducible refine (G0.out).mono ?_)
  rintro e w' ⟨rfl, rfl⟩
  go_wp2_with fail
  go_loopw [5, 6] (fun tl ta wr => ∃ (A : List T8) (ts : List M.Tok) (i : Nat), i ≤ s.size ∧ ta = .int .i64 i ∧ A.length ≤ i ∧ wr.ownsRow w.heap.size 39 3 tl A.length (tokCells A) ∧ View A ts ∧ Sofar s i ts ∧ Below w.heap.size w wr) (fun _ ta _ => s.size - (intOf ta).toNat)
  case atStart => exact ⟨[], [], a0, ha0, rfl, Nat.zero_le _, World.ownsRow_nil _ _ _ _, View.nil, by rw [HA.out]; exact Sofar.start s, HB0.out⟩
  case round =>
    obtain ⟨A, ts, i, hi, rfl, hAi, hown, hview, hso, hB⟩ := hrel
    have HO := Lib.hid hown
    have HVI := Lib.hid hview
    have HSO := Lib.hid hso
    have HB := Lib.hid hB
    clear hown hview hso hB
    by_cases hlt : i < s.size
    · have F1 := Lib.hid (FI.out (s.extract i s.size) wr (by rw [M.size_extract s i hi]; have := HS.out; omega))
      unfold FirstEnd at F1
      rw [M.bs_from] at F1
      obtain ⟨E, k, tx, hw⟩ : ∃ E k tx, M.wordL ((M.bs s).drop i) = (E, k, tx) := ⟨_, _, _, rfl⟩
      rw [hw] at F1
      have HW := Lib.hid hw
      clear hw
      by_cases hE : E = 0
      · subst hE
        go_wp2_with fail
        (with_reducible refine (F1.out).mono ?_)
        rintro e w1 ⟨⟨T, rfl, hT⟩, hb1⟩
        have HB1 := Lib.hid (HB.out.trans (hb1.mono HB.out.size))
        have HO1 := Lib.hid (own_below HO.out hb1)
        have HT := Lib.hid hT
        clear hT hb1
        have hwl := M.word_len HW.out
        have hTl : T.size = tx.length := by rw [← M.bs_len, HT.out]
        have hle : i + T.size ≤ s.size := by rw [hTl]; rw [List.length_drop, LEN.out] at hwl; omega
        have hT1 : 1 ≤ T.size := by rw [hTl]; exact hwl.1
        have HTL := Lib.hid hTl
        have k1 : ∀ (j : Nat) (u : Value), [Value.int .i64 k, Value.string T, Value.int .i64 (i : Nat)][j]? = some u → (w1.alloc (.cells #[.int .i64 k, .string T, .int .i64 (i : Nat)] 39)).cell? ((⟨w1.heap.size, 0, none⟩ : Addr).add j) = some u := by
          intro j u hu
          rw [Addr.add_lit]
          match j, hu with
          | 0, hu => simpa using hu
          | 1, hu => simpa using hu
          | 2, hu => simpa using hu
        have K1 := Lib.hid k1
        have HAI := Lib.hid hAi
        clear hwl hTl k1 hAi
        go_wp2_with (at_builtin; refine wpList_append_own _ rfl _ _ 34 rfl w.heap.size 39 i0 (.agg #[.int .i64 0, .string ⟨#[]⟩, .int .i64 0]) 3 32 Tryd.underlying34 hi0 hz0 hz1 hz2 rfl (by decide) _ _ _ rfl (HO1.out.alloc _) ⟨w1.heap.size, 0, none⟩ 1 1 [.int .i64 k, .string T, .int .i64 (i : Nat)] rfl rfl K1.out ?d2 ?d3 ?d4 ?d5 ?_)
        case d2 => intro u hu; simp at hu; rcases hu with rfl | rfl | rfl <;> rfl
        case d3 => have := HAI.out; have := HS.out; unfold maxLen; omega
        case d4 => have := HAI.out; have := HS.out; omega
        case d5 => have := HB1.out.size; simp; omega
        intro v' w2 hown hgrow _
        have HB2 := Lib.hid ((HB1.out.alloc HB1.out.size _).grown hgrow (by have := HB1.out.size; simp; omega) (fun j e => by have := (HO1.out.lt j e).1; omega))
        have HO2 := Lib.hid (show w2.ownsRow w.heap.size 39 3 v' (A ++ [(⟨k, T, (i : Nat)⟩ : T8)]).length (tokCells (A ++ [(⟨k, T, (i : Nat)⟩ : T8)])) by
          rw [tokCells_app, List.length_append]; exact hown)
        have G1 := Lib.hid (GA.out (s.extract (i + T.size) s.size) w2 (by rw [M.size_extract s _ hle]; have := HS.out; omega))
        rw [M.bs_from] at G1
        obtain ⟨q, eq⟩ : ∃ q, q = M.skipAt ((M.bs s).drop (i + T.size)) 0 := ⟨_, rfl⟩
        rw [← eq] at G1
        have hj : M.skipAt (M.bs s) (i + T.size) = i + T.size + q := by rw [M.skipAt_zero _ _ (by rw [LEN.out]; exact hle), eq]
        have hle2 : i + T.size + q ≤ s.size := by rw [← hj, ← LEN.out]; exact M.skipAt_le _ _
        have HJ := Lib.hid (show (M.bs s).drop (i + T.size + q) = M.skipL ((M.bs s).drop (i + tx.length)) by rw [← hj, M.drop_skipAt, HTL.out])
        have hsz := HS.out
        clear hown hgrow hj eq
        go_wp2_with fail
        (with_reducible refine (G1.out).mono ?_)
        rintro e w' ⟨rfl, rfl⟩
        go_wp2_with fail
        go_roundw
        case rel => exact ⟨A ++ [(⟨k, T, (i : Nat)⟩ : T8)], ts ++ [⟨k, tx, i⟩], i + T.size + q, hle2, by go_num, by rw [List.length_append]; have := HAI.out; simp; omega, HO2.out, HVI.out.snoc rfl HT.out rfl, HSO.out.more hlt HW.out HJ.out, HB2.out⟩
        case measure => simp [intOf]; omega
      · have hE1 : (E != 0) = true := by rw [bne_iff_ne]; exact hE
        go_wp2_with fail
        (with_reducible refine (F1.out).mono ?_)
        rintro e w1 ⟨⟨T, rfl, hT⟩, hb1⟩
        have HB1 := Lib.hid (HB.out.trans (hb1.mono HB.out.size))
        clear hT hb1
        go_wp2_with fail
        go_ret3
        exact read_bad HS.out hE (HSO.out.bad hlt HW.out hE) HB1.out
    · obtain rfl : i = s.size := by omega
      go_wp2_with fail
      go_ret3
      exact read_ok HS.out (toks_of_own (by have := HS.out; omega) HO.out) (by have := HVI.out; rwa [← List.append_nil ts] at this) HSO.out.done HB.out
end Go.Proofs.YtagdbbikhegoaaaDoor
