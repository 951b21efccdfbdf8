/-
  Tokens: the reference's Write.
-/
import Derived.OwnWalk
import Derived.Lib.AppendStr
import Derived.Lib.UnsafeStr
import Derived.Lib.BufferRead
import Derived.Test.YtagdbbikhegoaaaWa
namespace Go.Proofs.Ytagdbbikhegoaaa
open Go.RowKit
set_option linter.unusedVariables false
set_option maxRecDepth 100000

theorem infoByte : (Try.prog.info? 5).map (fun i => (i.zero, i.size, i.bytes)) = some (some (.int .u8 0), 1, 1) := by kernel_rfl

/-- a row of bytes of the call's own, as a string -/
theorem own_bytes {W : World} {base : Nat} {v : Value} {l : List UInt8} (h : W.ownsRow base 5 1 v l.length (Lib.byteCells l)) : ∃ A cap, v = .slice A l.length cap ∧ (convert 45 9 v).run Try.prog W = .ok (.string ⟨l.toArray⟩) W := by
  have hcells := fun g hg => h.cells (g := g) hg
  rcases h.2 with ⟨rfl, h0⟩ | ⟨g, cap, cur, rfl, _⟩
  · have hl := List.length_eq_zero_iff.1 h0
    subst hl
    exact ⟨none, 0, rfl, Lib.run_convert_nil_bytes (P := Try.prog) _ _ _ 5 0 (by kernel_rfl) (by kernel_rfl) (by kernel_rfl)⟩
  · refine ⟨some ⟨g, 0, none⟩, cap, rfl, run_convert_bytes_back (P := Try.prog) _ _ _ 5 ⟨g, 0, none⟩ cap l (by kernel_rfl) (by kernel_rfl) (by kernel_rfl) fun j hj => ?_⟩
    exact hcells g rfl j _ (by simp [Lib.byteCells, hj])
theorem texts_take {ts : List T8} {k : Nat} (h : k < ts.length) : textsT (ts.take (k + 1)) = textsT (ts.take k) ++ [M.bs (ts.getD k T8.no).text] := by
  unfold textsT
  rw [List.take_add_one, List.getElem?_eq_getElem h, List.map_append, List.getD_eq_getElem?_getD, List.getElem?_eq_getElem h]
  rfl
theorem texts_take_len {ts : List T8} (h : ts.all okT = true) {k : Nat} (hk : k ≤ ts.length) : (M.joinL (textsT (ts.take k))).length ≤ 25 * k := by
  have h2 : (ts.take k).all okT = true := by
    rw [List.all_eq_true] at h ⊢
    exact fun t ht => h t (List.mem_of_mem_take ht)
  have := texts_len h2
  rwa [List.length_take, Nat.min_eq_left hk] at this
theorem join_first {ts : List T8} (h : 0 < ts.length) : M.joinL (textsT (ts.take 1)) = M.bs (ts.getD 0 T8.no).text := by
  rw [texts_take (k := 0) h]; rfl
theorem join_next {ts : List T8} {k : Nat} (h : k < ts.length) (h0 : 0 < k) : M.joinL (textsT (ts.take (k + 1))) = M.joinL (textsT (ts.take k)) ++ 32 :: M.bs (ts.getD k T8.no).text := by
  rw [texts_take h, M.joinL_snoc, if_neg]
  intro e
  have := congrArg List.length e
  unfold textsT at this
  rw [List.length_map, List.length_take, List.length_nil] at this
  omega

set_option maxHeartbeats 4000000 in
theorem rwrite_any (v : Value) (ts : List T8) (w : World) (hv : TokS w v ts) (hs : TokIn ts) : Calls Try.prog 13 #[v] w (WriteEnd ts w) := by
  have hud : ∀ b : Bool, undef ≠ Value.bool b := fun b h => by cases h
  obtain ⟨hl0, A, cap, rfl, hcap, hcells⟩ := hv
  have HB0 := Lib.hid (Below.refl w.heap.size w)
  by_cases hbig : 20000 < ts.length
  · have HE := Lib.hid (writeE_many hbig)
    go_enter Try.func13, Try.ntmps13
    go_wp2_with fail
    go_ret2
    exact write_no HE.out (by decide) HB0.out
  have hd20 : decide ((ts.length : Int) > 20000) = false := by rw [decide_eq_false_iff_not]; omega
  have hd21 : decide (20000 < (ts.length : Int)) = false := by rw [decide_eq_false_iff_not]; omega
  have hn : ts.length ≤ 20000 := by omega
  have HBIG := Lib.hid hbig
  have HC := Lib.hid hcells
  have HSZ := Lib.hid hs
  obtain ⟨i0, hi0, hz0, hz1, hz2⟩ : ∃ i, Try.prog.info? 5 = some i ∧ i.zero = some (.int .u8 0) ∧ i.size = 1 ∧ i.bytes = 1 := by
    have h := infoByte
    cases hq : Try.prog.info? 5 with
    | none => rw [hq] at h; cases h
    | some i => rw [hq] at h; simp only [Option.map_some, Option.some.injEq, Prod.mk.injEq] at h; exact ⟨i, rfl, h.1, h.2.1, h.2.2⟩
  clear hcells hs hl0 hbig
  go_enter Try.func13, Try.ntmps13
  go_wp2_with fail
  go_loopw [15] (fun ti wr => ∃ k : Nat, k ≤ ts.length ∧ ti = .int .i64 k ∧ (∀ j, j < k → okT (ts.getD j T8.no) = true) ∧ Below w.heap.size w wr) (fun ti _ => ts.length - (intOf ti).toNat)
  case atStart => exact ⟨0, Nat.zero_le _, rfl, fun j hj => absurd hj (by omega), HB0.out⟩
  case round =>
    obtain ⟨k, hk, rfl, hall, hB⟩ := hrel
    have HA := Lib.hid hall
    have HB := Lib.hid hB
    clear hall hB
    by_cases hlt : k < ts.length
    · obtain ⟨b, off, rfl, hbl, hcell⟩ := HC.out (by omega)
      obtain ⟨x0, x1, x2⟩ := hcell k hlt
      have p0 := (HB.out.cell (p := ⟨b, off + k * 3, none⟩) hbl).trans x0
      have p1 := (HB.out.cell (p := ⟨b, off + k * 3 + 1, none⟩) hbl).trans x1
      have p2 := (HB.out.cell (p := ⟨b, off + k * 3 + 2, none⟩) hbl).trans x2
      have hkk : okT (ts.getD k T8.no) = decide (M.tokE (ts.getD k T8.no).kind (M.bs (ts.getD k T8.no).text) (ts.getD k T8.no).off = 0) := rfl
      obtain ⟨hsz, hr1, hr2, hr3, hr4⟩ := HSZ.out (ts.getD k T8.no) (by rw [List.getD_eq_getElem?_getD, List.getElem?_eq_getElem hlt]; exact List.getElem_mem hlt)
      have OKF := Lib.hid fun h => okT_bad hlt h
      obtain ⟨K, eK⟩ : ∃ K, K = (ts.getD k T8.no).kind := ⟨_, rfl⟩
      obtain ⟨T, eT⟩ : ∃ T, T = (ts.getD k T8.no).text := ⟨_, rfl⟩
      obtain ⟨O, eO⟩ : ∃ O, O = (ts.getD k T8.no).off := ⟨_, rfl⟩
      rw [← eK] at p0 hkk hr1 hr2
      rw [← eT] at p1 hkk hsz
      rw [← eO] at p2 hkk hr3 hr4
      have CK := Lib.hid fun w => rcheckT_any K T O w hsz hr1 hr2 hr3 hr4
      obtain ⟨E, eE⟩ : ∃ E, E = M.tokE K (M.bs T) O := ⟨_, rfl⟩
      rw [← eE] at CK hkk
      have HKK := Lib.hid hkk
      have HBX := Lib.hid (HB.out.alloc HB.out.size (.cells #[.int .i64 K, .string T, .int .i64 O] 32))
      have hwr := HB.out.size
      clear hcell x0 x1 x2 eK eT eO hsz hkk hr1 hr2 hr3 hr4
      by_cases hE : E = 0
      · subst hE
        clear eE
        go_wp2_with fail
        (with_reducible refine (CK.out _).mono ?_)
        rintro e w2 ⟨rfl, hb2⟩
        have HB2 := Lib.hid (HBX.out.trans (hb2.mono HBX.out.size))
        clear hb2
        go_wp2_with fail
        go_roundw
        case rel =>
          refine ⟨k + 1, by omega, by go_num, fun j hj => ?_, HB2.out⟩
          rcases (show j < k ∨ j = k by omega) with h | rfl
          · exact HA.out j h
          · rw [HKK.out]; decide
        case measure => simp [intOf]; omega
      · have hE1 : (E != 0) = true := by rw [bne_iff_ne]; exact hE
        have HB4 := Lib.hid (show writeE ts = 4 from writeE_bad HBIG.out (OKF.out (by rw [HKK.out, decide_eq_false hE])))
        have h4 : E = 4 := (by rw [eE]; exact (tokE_cases K (M.bs T) O).resolve_left (by rw [← eE]; exact hE))
        subst h4
        clear eE
        go_wp2_with fail
        (with_reducible refine (CK.out _).mono ?_)
        rintro e w2 ⟨rfl, hb2⟩
        have HB2 := Lib.hid (HBX.out.trans (hb2.mono HBX.out.size))
        clear hb2
        go_wp2_with fail
        go_ret2
        exact write_no HB4.out (by decide) HB2.out
    · obtain rfl : k = ts.length := by omega
      have HALL := Lib.hid (okT_all HA.out)
      clear HA
      go_wp2_with fail
      go_loopw [7, 27] (fun tv ti wr => ∃ (k : Nat) (l : List UInt8), k ≤ ts.length ∧ ti = .int .i64 k ∧ wr.ownsRow w.heap.size 5 1 tv l.length (Lib.byteCells l) ∧ l.map UInt8.toNat = M.joinL (textsT (ts.take k)) ∧ Below w.heap.size w wr) (fun _ ti _ => ts.length - (intOf ti).toNat)
      case atStart => exact ⟨0, [], Nat.zero_le _, rfl, World.ownsRow_nil _ _ _ _, rfl, HB.out⟩
      case round =>
        clear HB
        obtain ⟨k, l, hk, rfl, hown, hj, hB⟩ := hrel
        have HO := Lib.hid hown
        have HJ := Lib.hid hj
        have HB := Lib.hid hB
        have hll : l.length ≤ 25 * k := by
          have := texts_take_len HALL.out hk
          rw [← hj, List.length_map] at this
          exact this
        clear hown hj hB
        by_cases hlt : k < ts.length
        · obtain ⟨b, off, rfl, hbl, hcell⟩ := HC.out (by omega)
          obtain ⟨x0, x1, x2⟩ := hcell k hlt
          have p0 := (HB.out.cell (p := ⟨b, off + k * 3, none⟩) hbl).trans x0
          have p1 := (HB.out.cell (p := ⟨b, off + k * 3 + 1, none⟩) hbl).trans x1
          have p2 := (HB.out.cell (p := ⟨b, off + k * 3 + 2, none⟩) hbl).trans x2
          have htl := M.tok_short (okT_tok (List.all_eq_true.1 HALL.out (ts.getD k T8.no) (by rw [List.getD_eq_getElem?_getD, List.getElem?_eq_getElem hlt]; exact List.getElem_mem hlt))).1
          have JN := Lib.hid fun h0 => join_next hlt h0
          have J1 := Lib.hid fun h0 : k = 0 => (show M.joinL (textsT (ts.take (k + 1))) = M.bs (ts.getD k T8.no).text by subst h0; exact join_first hlt)
          obtain ⟨K, eK⟩ : ∃ K, K = (ts.getD k T8.no).kind := ⟨_, rfl⟩
          obtain ⟨T, eT⟩ : ∃ T, T = (ts.getD k T8.no).text := ⟨_, rfl⟩
          obtain ⟨O, eO⟩ : ∃ O, O = (ts.getD k T8.no).off := ⟨_, rfl⟩
          rw [← eK] at p0
          rw [← eT] at p1 JN J1 htl
          rw [← eO] at p2
          rw [M.bs_len] at htl
          have HBX := Lib.hid (HB.out.alloc HB.out.size (.cells #[.int .i64 K, .string T, .int .i64 O] 32))
          have HOX := Lib.hid (HO.out.alloc (.cells #[.int .i64 K, .string T, .int .i64 O] 32))
          have HWR := Lib.hid HB.out.size
          clear hcell x0 x1 x2 eK eT eO
          by_cases h0 : k = 0
          · have hk0 : decide ((k : Int) > 0) = false := by rw [decide_eq_false_iff_not]; omega
            have hk1 : decide (0 < k) = false := by rw [decide_eq_false_iff_not]; omega
            have J2 := Lib.hid (J1.out h0)
            have HL0 := Lib.hid (show l = [] by
              have h := congrArg List.length HJ.out
              have h2 : textsT (ts.take k) = [] := by rw [h0]; rfl
              rw [h2, List.length_map] at h
              exact List.length_eq_zero_iff.1 h)
            clear J1 JN h0
            go_wp2_with (at_builtin; refine Lib.wpList_append_own_string _ rfl _ _ 45 9 rfl w.heap.size 5 i0 Try.underlying45 Try.underlying9 hi0 hz0 hz1 hz2 _ _ _ rfl HOX.out T rfl ?d3 ?d4 ?d5 ?_)
            case d3 => unfold maxLen; omega
            case d4 => omega
            case d5 => have := HWR.out; simp; omega
            intro v2 w2 hown2 hgrow2 _
            have HO2 := Lib.hid (show w2.ownsRow w.heap.size 5 1 v2 (l ++ T.data.toList).length (Lib.byteCells (l ++ T.data.toList)) by
              rw [Lib.byteCells_append, List.length_append]; exact hown2)
            have HB2 := Lib.hid (HBX.out.grown hgrow2 (by have := HWR.out; simp; omega) (fun j e => by have := (HOX.out.lt j e).1; omega))
            clear hown2 hgrow2
            go_wp2_with fail
            go_roundw
            case rel => exact ⟨k + 1, l ++ T.data.toList, by omega, by go_num, HO2.out, by rw [HL0.out, List.nil_append, J2.out]; rfl, HB2.out⟩
            case measure => simp [intOf]; omega
          · have hk0 : decide ((k : Int) > 0) = true := by rw [decide_eq_true_eq]; omega
            have hk1 : decide (0 < k) = true := by rw [decide_eq_true_eq]; omega
            have J2 := Lib.hid (JN.out (by omega))
            have k1 : ∀ (j : Nat) (u : Value), [Value.int .u8 32][j]? = some u → ((wr.alloc (.cells #[.int .i64 K, .string T, .int .i64 O] 32)).alloc (.cells #[.int .u8 32] 5)).cell? ((⟨wr.heap.size + 1, 0, none⟩ : Addr).add j) = some u := by
              intro j u hu
              rw [Addr.add_lit]
              match j, hu with
              | 0, hu => simpa using hu
            have K1 := Lib.hid k1
            have HBY := Lib.hid (HBX.out.alloc (by have := HWR.out; simp; omega) (.cells #[.int .u8 32] 5))
            have HOY := Lib.hid (HOX.out.alloc (.cells #[.int .u8 32] 5))
            clear J1 JN h0 k1
            go_wp2_with (at_builtin; refine wpList_append_own _ rfl _ _ 45 rfl w.heap.size 5 i0 (.int .u8 0) 1 1 Try.underlying45 hi0 hz0 hz1 hz2 rfl (by decide) _ _ _ rfl HOY.out ⟨wr.heap.size + 1, 0, none⟩ 1 1 [.int .u8 32] rfl rfl K1.out ?d2 ?d3 ?d4 ?d5 ?_)
            case d2 => intro u hu; simp at hu; subst hu; rfl
            case d3 => unfold maxLen; omega
            case d4 => omega
            case d5 => have := HWR.out; simp; omega
            intro v2 w2 hown2 hgrow2 _
            have HO2 := Lib.hid hown2
            have HB2 := Lib.hid (HBY.out.grown hgrow2 (by have := HWR.out; simp; omega) (fun j e => by have := (HOY.out.lt j e).1; omega))
            have q1 : w2.cell? ⟨wr.heap.size, 1, none⟩ = some (.string T) := (World.cell?_of_block (a := ⟨wr.heap.size, 1, none⟩) (hgrow2.block wr.heap.size (by simp; omega) (fun e => by have := (HO.out.lt _ e.symm).2; omega))).trans (by simp)
            have hs2 := hgrow2.size
            have HW2 := Lib.hid HB2.out.size
            clear hown2 hgrow2 hs2
            go_wp2_with (at_builtin; refine Lib.wpList_append_own_string _ rfl _ _ 45 9 rfl w.heap.size 5 i0 Try.underlying45 Try.underlying9 hi0 hz0 hz1 hz2 _ _ _ rfl HO2.out T rfl ?d3 ?d4 ?d5 ?_)
            case d3 => unfold maxLen; omega
            case d4 => omega
            case d5 => have := HW2.out; omega
            intro v3 w3 hown3 hgrow3 _
            have HO3 := Lib.hid (show w3.ownsRow w.heap.size 5 1 v3 (l ++ 32 :: T.data.toList).length (Lib.byteCells (l ++ 32 :: T.data.toList)) by
              rw [show (l ++ 32 :: T.data.toList).length = l.length + 1 + T.size by simp; omega, Lib.byteCells_append]
              exact hown3)
            have HB3 := Lib.hid (HB2.out.grown hgrow3 (by have := HW2.out; omega) (fun j e => by have := (HO2.out.lt j e).1; omega))
            clear hown3 hgrow3 q1
            go_wp2_with fail
            go_roundw
            case rel => exact ⟨k + 1, l ++ 32 :: T.data.toList, by omega, by go_num, HO3.out, by rw [J2.out, ← HJ.out]; simp [M.bs], HB3.out⟩
            case measure => simp [intOf]; omega
        · obtain rfl : k = ts.length := by omega
          obtain ⟨Ao, co, rfl, hcv⟩ := own_bytes HO.out
          have hj : l.map UInt8.toNat = M.joinL (textsT ts) := by have := HJ.out; rwa [List.take_length] at this
          have hjl : l.length = (M.joinL (textsT ts)).length := by rw [← hj, List.length_map]
          have HJ2 := Lib.hid (show M.bs ⟨l.toArray⟩ = M.joinL (textsT ts) by rw [← hj]; rfl)
          by_cases h20 : 20000 < l.length
          · have HE := Lib.hid (writeE_long HBIG.out HALL.out (by rw [← hjl]; exact h20))
            clear hj hjl
            go_wp2_with fail
            go_ret2
            exact write_no HE.out (by decide) HB.out
          · have HE := Lib.hid (writeE_ok HBIG.out HALL.out (by rw [← hjl]; exact h20))
            have hq20 : decide ((l.length : Int) > 20000) = false := by rw [decide_eq_false_iff_not]; omega
            have hq21 : decide (20000 < (l.length : Int)) = false := by rw [decide_eq_false_iff_not]; omega
            clear hj hjl
            go_wp2_with fail
            go_ret2
            exact write_ok HE.out HJ2.out HB.out
end Go.Proofs.Ytagdbbikhegoaaa
