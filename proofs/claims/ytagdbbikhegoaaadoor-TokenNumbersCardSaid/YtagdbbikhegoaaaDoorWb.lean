/-
  Tokens: the program's Write.
-/
import Derived.OwnWalk
import Derived.Test.YtagdbbikhegoaaaDoorWa
import Derived.Test.YtagdbbikhegoaaaDoorKu
namespace Go.Proofs.YtagdbbikhegoaaaDoor
open Go.RowKit
set_option linter.unusedVariables false
set_option maxRecDepth 100000

set_option maxHeartbeats 4000000 in
theorem write_any (v : Value) (ts : List T8) (w : World) (hv : TokS w v ts) (hs : ∀ t ∈ ts, t.text.size ≤ 140737488351232) : Calls Tryd.prog 15 #[v] w (WriteEnd ts w) := by
  have hud : ∀ b : Bool, undef ≠ Value.bool b := fun b h => by cases h
  obtain ⟨hl0, A, cap, rfl, hcap, hcells⟩ := hv
  have HB0 := Lib.hid (Below.refl w.heap.size w)
  by_cases hbig : 20000 < ts.length
  · have HE := Lib.hid (writeE_many hbig)
    go_enter Tryd.func15, Tryd.ntmps15
    go_wp2_with fail
    go_ret2
    exact write_no HE.out (by decide) HB0.out
  have hd20 : decide ((ts.length : Int) > 20000) = false := by rw [decide_eq_false_iff_not]; omega
  have hd21 : decide (20000 < (ts.length : Int)) = false := by rw [decide_eq_false_iff_not]; omega
  have hn : ts.length ≤ 20000 := by omega
  have HBIG := Lib.hid hbig
  have HC := Lib.hid hcells
  have HSZ := Lib.hid hs
  obtain ⟨i0, hi0, hz0, hz1, hz2⟩ : ∃ i, Tryd.prog.info? 9 = some i ∧ i.zero = some (.string ⟨#[]⟩) ∧ i.size = 1 ∧ i.bytes = 16 := by
    have h := infoStr
    cases hq : Tryd.prog.info? 9 with
    | none => rw [hq] at h; cases h
    | some i => rw [hq] at h; simp only [Option.map_some, Option.some.injEq, Prod.mk.injEq] at h; exact ⟨i, rfl, h.1, h.2.1, h.2.2⟩
  clear hcells hs hl0 hbig
  go_enter Tryd.func15, Tryd.ntmps15
  go_wp2_with (refine wpList_make_full _ rfl _ _ 45 rfl w.heap.size 9 i0 (.string ⟨#[]⟩) 1 Tryd.underlying45 hi0 hz0 hz1 .i64 .i64 _ _ ts.length rfl rfl rfl rfl ?c1 ?c2 ?c3 ?_)
  case c1 => rw [hz2]; omega
  case c2 => unfold maxLen; omega
  case c3 => exact Nat.le_refl _
  intro w1 hown hgrow
  have HB1 := Lib.hid ((Below.refl w.heap.size w).grown hgrow (Nat.le_refl _) (by simp))
  have HO1 := Lib.hid (show w1.ownsRow w.heap.size 9 1 (.slice (some ⟨w.heap.size, 0, none⟩) ts.length ts.length) ts.length (wordCells ts 0) by rw [wordCells_start] at hown; exact hown)
  have hg1 : w.heap.size < w1.heap.size := (HO1.out.lt _ rfl).2
  have HG := Lib.hid hg1
  clear hown hgrow hi0 hz0 hz1 hz2 hg1
  go_wp2_with fail
  go_loopw [17] (fun ti wr => ∃ k : Nat, k ≤ ts.length ∧ ti = .int .i64 k ∧ wr.ownsRow w.heap.size 9 1 (.slice (some ⟨w.heap.size, 0, none⟩) ts.length ts.length) ts.length (wordCells ts k) ∧ (∀ j, j < k → okT (ts.getD j T8.no) = true) ∧ Below w.heap.size w wr) (fun ti _ => ts.length - (intOf ti).toNat)
  case atStart => exact ⟨0, Nat.zero_le _, rfl, HO1.out, fun j hj => absurd hj (by omega), HB1.out⟩
  case round =>
    obtain ⟨k, hk, rfl, hown, hall, hB⟩ := hrel
    have HO := Lib.hid hown
    have HA := Lib.hid hall
    have HB := Lib.hid hB
    clear hown hall hB
    by_cases hlt : k < ts.length
    · obtain ⟨b, off, rfl, hbl, hcell⟩ := HC.out (by omega)
      obtain ⟨x0, x1, x2⟩ := hcell k hlt
      have p0 := (HB.out.cell (p := ⟨b, off + k * 3, none⟩) hbl).trans x0
      have p1 := (HB.out.cell (p := ⟨b, off + k * 3 + 1, none⟩) hbl).trans x1
      have p2 := (HB.out.cell (p := ⟨b, off + k * 3 + 2, none⟩) hbl).trans x2
      have hkk : okT (ts.getD k T8.no) = decide (M.tokE (ts.getD k T8.no).kind (M.bs (ts.getD k T8.no).text) (ts.getD k T8.no).off = 0) := rfl
      have hsz := HSZ.out (ts.getD k T8.no) (by rw [List.getD_eq_getElem?_getD, List.getElem?_eq_getElem hlt]; exact List.getElem_mem hlt)
      have HST := Lib.hid (wordCells_step ts hlt)
      have OKF := Lib.hid fun h => okT_bad hlt h
      obtain ⟨K, eK⟩ : ∃ K, K = (ts.getD k T8.no).kind := ⟨_, rfl⟩
      obtain ⟨T, eT⟩ : ∃ T, T = (ts.getD k T8.no).text := ⟨_, rfl⟩
      obtain ⟨O, eO⟩ : ∃ O, O = (ts.getD k T8.no).off := ⟨_, rfl⟩
      rw [← eK] at p0 hkk
      rw [← eT] at p1 hkk hsz HST
      rw [← eO] at p2 hkk
      have CK := Lib.hid fun w => checkT_any K T O w hsz
      obtain ⟨E, eE⟩ : ∃ E, E = M.tokE K (M.bs T) O := ⟨_, rfl⟩
      rw [← eE] at CK hkk
      have HKK := Lib.hid hkk
      have HBX := Lib.hid (HB.out.alloc HB.out.size (.cells #[.int .i64 K, .string T, .int .i64 O] 39))
      have HOX := Lib.hid (HO.out.alloc (.cells #[.int .i64 K, .string T, .int .i64 O] 39))
      have hwr := HB.out.size
      clear hcell x0 x1 x2 eK eT eO hsz hkk
      by_cases hE : E = 0
      · subst hE
        go_wp2_with fail
        (with_reducible refine (CK.out _).mono ?_)
        rintro e w2 ⟨rfl, hb2⟩
        have HB2 := Lib.hid (HBX.out.trans (hb2.mono HBX.out.size))
        have HO2 := Lib.hid (own_below HOX.out hb2)
        have q1 : w2.cell? ⟨wr.heap.size, 1, none⟩ = some (.string T) := (hb2.cell (p := ⟨wr.heap.size, 1, none⟩) (by simp)).trans (by simp)
        have c2 := (HO2.out.cellAt k (by omega)).trans (wordCells_get ts k hlt)
        have f2 := HO2.out.frozenAt k
        have hst := HO2.out.stored k (.string T)
        rw [HST.out] at hst
        have HS2 := Lib.hid hst.1
        have HB3 := Lib.hid (HB2.out.setCell (p := ⟨w.heap.size, k, none⟩) (Nat.le_refl _) (.string T))
        clear hst hb2
        go_wp2_with fail
        go_roundw
        case rel =>
          refine ⟨k + 1, by omega, by go_num, HS2.out, fun j hj => ?_, HB3.out⟩
          rcases (show j < k ∨ j = k by omega) with h | rfl
          · exact HA.out j h
          · rw [HKK.out]; decide
        case measure => simp [intOf]; omega
      · have hE1 : (E != 0) = true := by rw [bne_iff_ne]; exact hE
        have HB4 := Lib.hid (show writeE ts = 4 from writeE_bad HBIG.out (OKF.out (by rw [HKK.out, decide_eq_false hE])))
        have h4 : E = 4 := (by rw [eE]; exact (tokE_cases K (M.bs T) O).resolve_left (by rw [← eE]; exact hE))
        subst h4
        clear eE
        go_wp2_with fail
        (with_reducible refine (CK.out _).mono ?_)
        rintro e w2 ⟨rfl, hb2⟩
        have HB2 := Lib.hid (HBX.out.trans (hb2.mono HBX.out.size))
        clear hb2
        go_wp2_with fail
        go_ret2
        exact write_no HB4.out (by decide) HB2.out
    · obtain rfl : k = ts.length := by omega
      have HALL := Lib.hid (okT_all HA.out)
      have hcell : ∀ (j : Nat) x, (ts.map (·.text))[j]? = some x → wr.cell? ⟨w.heap.size, 0 + j, none⟩ = some (.string x) := by
        intro j x hx
        have hj : j < ts.length := by
          have := (List.getElem?_eq_some_iff.1 hx).1
          simpa using this
        rw [Nat.zero_add, HO.out.cellAt j (by omega), wordCells_get ts _ hj, if_pos hj]
        rw [List.getElem?_map, List.getElem?_eq_getElem hj] at hx
        simp only [Option.map_some, Option.some.injEq] at hx
        rw [List.getD_eq_getElem?_getD, List.getElem?_eq_getElem hj, ← hx]; rfl
      have hjl : ((Lib.join ((ts.map (·.text)).map (·.data.toList)) [32]).map UInt8.toNat) = M.joinL (textsT ts) := by
        rw [M.join_is [32] rfl, List.map_map]; rfl
      have hlen := texts_len HALL.out
      have hjl2 : (Lib.join ((ts.map (·.text)).map (·.data.toList)) [32]).length = (M.joinL (textsT ts)).length := by
        rw [← hjl, List.length_map]
      have JO := Lib.hid (Tryd.strings_Join w.heap.size 0 ts.length (ts.map (·.text)) ⟨#[32]⟩ wr hcell (HO.out.lt _ rfl).2 (by simp; omega) (by simp) (by show (Lib.join ((ts.map (·.text)).map (·.data.toList)) [32]).length ≤ _; omega))
      rw [List.length_map] at JO
      obtain ⟨J, eJ⟩ : ∃ J : ByteArray, J = ⟨(Lib.join ((ts.map (·.text)).map (·.data.toList)) [32]).toArray⟩ := ⟨_, rfl⟩
      have JO2 := Lib.hid (show Calls Tryd.prog 20 #[.slice (some ⟨w.heap.size, 0, none⟩) ts.length ts.length, .string ⟨#[32]⟩] wr fun e w' => e = .returned (.string J) ∧ Below wr.heap.size wr w' by rw [eJ]; exact JO.out)
      have hJ : M.bs J = M.joinL (textsT ts) := by rw [eJ, ← hjl]; rfl
      have hJs : J.size = (M.joinL (textsT ts)).length := by rw [← M.bs_len, hJ]
      have HJ := Lib.hid hJ
      have HJS := Lib.hid hJs
      clear hcell hjl hlen hjl2 JO eJ hJ hJs
      go_wp2_with fail
      (with_reducible refine (JO2.out).mono ?_)
      rintro e w2 ⟨rfl, hb2⟩
      have HB2 := Lib.hid (HB.out.trans (hb2.mono HB.out.size))
      clear hb2
      by_cases h20 : 20000 < J.size
      · have HE := Lib.hid (writeE_long HBIG.out HALL.out (by rw [← HJS.out]; exact h20))
        go_wp2_with fail
        go_ret2
        exact write_no HE.out (by decide) HB2.out
      · have HE := Lib.hid (writeE_ok HBIG.out HALL.out (by rw [← HJS.out]; exact h20))
        have hq20 : decide ((J.size : Int) > 20000) = false := by rw [decide_eq_false_iff_not]; omega
        have hq21 : decide (20000 < (J.size : Int)) = false := by rw [decide_eq_false_iff_not]; omega
        go_wp2_with fail
        go_ret2
        exact write_ok HE.out HJ.out HB2.out
end Go.Proofs.YtagdbbikhegoaaaDoor
