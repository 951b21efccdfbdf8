/-
  The walk of TokenBetween: what lies between the tokens that Read answers.
-/
import Derived.Test.YtagdbbikhegoaaaL8
import Derived.Test.YtagdbbikhegoaaaKe
import Derived.Test.YtagdbbikhegoaaaLex
import Derived.Deep.RegionHeld3
namespace Go.Proofs.Ytagdbbikhegoaaa
open Go.RowKit
set_option linter.unusedVariables false
set_option maxRecDepth 100000
theorem wrapI64 (x : Int) (h1 : 0 ≤ x) (h2 : x ≤ 9223372036854775807) : IntKind.i64.wrap x = x := by
  rw [IntKind.wrap_i64]
  omega
namespace M
/-- the tokens lie in the text, one behind another, from a on -/
def Chain (L : List Nat) : Nat → List Tok → Prop
  | a, [] => skipAt L a = L.length
  | a, t :: r => skipAt L a = t.at_ ∧ t.at_ + t.text.length ≤ L.length ∧ (L.drop t.at_).take t.text.length = t.text ∧ Chain L (t.at_ + t.text.length) r
theorem chain_of {L : List Nat} {l : List Nat} {ts : List Tok} {p : Nat} {e : Int} (h : Reads L.length l ts p e) : e = 0 → ∀ a, a ≤ L.length → l = skipL (L.drop a) → Chain L a ts := by
  induction h with
  | done =>
    intro _ a ha hl
    show L.length - (skipL (L.drop a)).length = L.length
    rw [← hl]; simp
  | bad h1 hw => intro h0; exact absurd h0 hw
  | step h1 hw hr ih =>
    intro h0 a ha hl
    rename_i l k t ts p e
    have hs := skipAt_le L a
    have hge := skipAt_ge L a ha
    have hd : l = L.drop (skipAt L a) := by rw [hl, drop_skipAt]
    have hll : l.length = L.length - skipAt L a := by rw [hd, List.length_drop]
    obtain ⟨_, _, rest, hrest⟩ := word_tok hw
    have htl : t.length ≤ l.length := by rw [hrest, List.length_append]; omega
    refine ⟨by show skipAt L a = L.length - l.length; omega, by show L.length - l.length + t.length ≤ L.length; omega, ?_, ?_⟩
    · show (L.drop (L.length - l.length)).take t.length = t
      rw [show L.length - l.length = skipAt L a by omega, ← hd, hrest, List.take_left]
    · show Chain L (L.length - l.length + t.length) ts
      refine ih h0 _ (by omega) ?_
      rw [show L.length - l.length = skipAt L a by omega, hd, List.drop_drop]
end M
namespace tokenBetweenW
set_option maxHeartbeats 4000000 in
theorem walk (W : World) (s : ByteArray) (hs : s.size ≤ 140737488351232) :
    Calls Try.prog 7 #[.string s] W fun e w' => e = .returned (.bool true) ∧ Below W.heap.size W w' := by
  have hud : ∀ b : Bool, undef ≠ Value.bool b := fun b h => by cases h
  have R1 := Lib.hid (read_any s W hs)
  have AL := Lib.hid fun w => alive_any w
  have SK := Lib.hid fun (a : Nat) (w : World) (ha : a ≤ s.size) => rskip_any s a w hs ha
  have LEN := Lib.hid (M.bs_len s)
  go_enter Try.func7, Try.ntmps7
  go_wp2_with fail
  (with_reducible refine (R1.out).mono ?_)
  rintro e w1 ⟨A, ts, v, p, E, rfl, hv, hr, h1, h2, hb⟩
  have B1 := Lib.hid hb
  by_cases hE : E = 0
  · subst hE
    rcases hr with ⟨_, _, _, h0⟩ | ⟨h20, hr⟩
    · cases h0
    have hch := M.chain_of hr rfl 0 (Nat.zero_le _) (by rw [List.drop_zero])
    have hview := h1 rfl
    have hal := hview.len
    obtain ⟨hl0, Aa, cap, rfl, hcap, hcells⟩ := hv
    have HC := Lib.hid hcells
    have HCH := Lib.hid hch
    have HVI := Lib.hid hview
    have HAL := Lib.hid hal
    rw [LEN.out] at h20
    have hsk0 := Lib.hid h20
    clear hr h1 h2 hb hch hview hal hcells
    go_wp2_with fail
    go_loopw [6, 25] (fun ta ti wr => ∃ k a : Nat, k ≤ A.length ∧ a ≤ s.size ∧ ti = .int .i64 k ∧ ta = .int .i64 a ∧ M.Chain (M.bs s) a (ts.drop k) ∧ Below w1.heap.size w1 wr) (fun _ ti _ => A.length - (intOf ti).toNat)
    case atStart => exact ⟨0, 0, by omega, by omega, rfl, rfl, HCH.out, Below.refl _ _⟩
    case round =>
      obtain ⟨k, a, hk, ha, rfl, rfl, hch, hB⟩ := hrel
      have HB := Lib.hid hB
      by_cases hlt : k < A.length
      · obtain ⟨b, off, rfl, hbl, hcell⟩ := HC.out (by omega)
        obtain ⟨x0, x1, x2⟩ := hcell k hlt
        have p0 := (HB.out.cell (p := ⟨b, off + k * 3, none⟩) hbl).trans x0
        have p1 := (HB.out.cell (p := ⟨b, off + k * 3 + 1, none⟩) hbl).trans x1
        have p2 := (HB.out.cell (p := ⟨b, off + k * 3 + 2, none⟩) hbl).trans x2
        have hts : k < ts.length := by rw [← HAL.out]; exact hlt
        have hdr : ts.drop k = ts[k] :: ts.drop (k + 1) := List.drop_eq_getElem_cons hts
        rw [hdr] at hch
        obtain ⟨c1, c2, c3, c4⟩ := hch
        have hvk : (A.getD k T8.no).kind = ts[k].kind ∧ M.bs (A.getD k T8.no).text = ts[k].text ∧ (A.getD k T8.no).off = (ts[k].at_ : Int) := by
          have h := congrArg (fun l => l[k]?) HVI.out
          simp only [List.getElem?_map, List.getElem?_eq_getElem hts, List.getElem?_eq_getElem hlt, Option.map_some, Option.some.injEq, Prod.mk.injEq] at h
          rw [List.getD_eq_getElem?_getD, List.getElem?_eq_getElem hlt]
          exact h
        obtain ⟨u, eu⟩ : ∃ u, u = ts[k] := ⟨_, rfl⟩
        rw [← eu] at c1 c2 c3 c4 hvk
        obtain ⟨v1, v2, v3⟩ := hvk
        obtain ⟨K, eK⟩ : ∃ K, K = (A.getD k T8.no).kind := ⟨_, rfl⟩
        obtain ⟨T, eT⟩ : ∃ T, T = (A.getD k T8.no).text := ⟨_, rfl⟩
        obtain ⟨o, eo⟩ : ∃ o, o = u.at_ := ⟨_, rfl⟩
        rw [← eK] at p0
        rw [← eT] at p1 v2
        rw [v3, ← eo] at p2
        rw [← eo] at c1 c2 c3 c4
        rw [← v2, M.bs_len] at c2 c3 c4
        rw [LEN.out] at c2
        have S1 := Lib.hid fun w => SK.out a w ha
        rw [c1] at S1
        have hex : s.extract o (o + T.size) = T := M.bs_inj (by rw [M.bs_extract _ _ _ c2, show o + T.size - o = T.size by omega]; exact c3)
        have hq : ((s.extract o (o + T.size)).toList == T.toList) = true := by rw [hex]; simp
        have hq2 : ((s.extract o (o + T.size)).toList != T.toList) = false := by rw [hex]; simp
        have hq3 : ((s.extract o ((o : Int) + (T.size : Int)).toNat).toList == T.toList) = true := by rw [show ((o : Int) + (T.size : Int)).toNat = o + T.size by omega, hex]; simp
        clear hex hq hq2
        have g1 : ((o : Int) == (o : Int)) = true := by simp
        have g2 : decide ((o : Int) + (T.size : Int) > (s.size : Int)) = false := by rw [decide_eq_false_iff_not]; omega
        have hwr : IntKind.i64.wrap ((o : Int) + (T.size : Int)) = (o : Int) + (T.size : Int) := wrapI64 _ (by omega) (by omega)
        have f1 : 0 ≤ (o : Int) + (T.size : Int) := by omega
        have f2 : (o : Int) + (T.size : Int) ≤ (s.size : Int) := by omega
        have f3 : (o : Int) ≤ (o : Int) + (T.size : Int) := by omega
        have f4 : (0 : Int) ≤ (o : Int) := by omega
        have g4 : decide (s.size < o + T.size) = false := by rw [decide_eq_false_iff_not]; omega
        have g3 : decide ((s.size : Int) < (o : Int) + (T.size : Int)) = false := by rw [decide_eq_false_iff_not]; omega
        have HCH4 := Lib.hid c4
        have HBX := Lib.hid (HB.out.alloc HB.out.size (.cells #[.int .i64 K, .string T, .int .i64 (o : Nat)] 32))
        obtain ⟨WX, eWX⟩ : ∃ WX, WX = wr.alloc (.cells #[.int .i64 K, .string T, .int .i64 (o : Nat)] 32) := ⟨_, rfl⟩
        have s1 : WX.cell? ⟨wr.heap.size, 1, none⟩ = some (.string T) := by rw [eWX]; simp
        have s2 : WX.cell? ⟨wr.heap.size, 2, none⟩ = some (.int .i64 (o : Nat)) := by rw [eWX]; simp
        have hsx : wr.heap.size < WX.heap.size := by rw [eWX]; simp
        rw [← eWX] at HBX
        clear hcell x0 x1 x2 hdr c1 c3 c4 v1 v2 v3 eu eK eT eo hB
        go_wp2_with fail
        rw [← eWX]
        clear eWX
        go_region_held3 (fun w' => w'.cell? ⟨wr.heap.size, 1, none⟩ = some (.string T) ∧ w'.cell? ⟨wr.heap.size, 2, none⟩ = some (.int .i64 (o : Nat)))
          (first | exact ⟨((Below.refl _ _).drew.cell (p := ⟨wr.heap.size, 1, none⟩) hsx).trans s1, ((Below.refl _ _).drew.cell (p := ⟨wr.heap.size, 2, none⟩) hsx).trans s2⟩ | go_keep)
          (first
            | (go_at_call 20; (with_reducible refine (S1.out _).mono ?_); rintro e w3 ⟨rfl, rfl⟩))
        have HBD := Lib.hid HBX.out.drew
        go_wp2_with fail
        refine ⟨⟨k + 1, o + T.size, by omega, c2, by go_num, by go_num, HCH4.out, HBD.out⟩, ?_⟩
        simp [intOf]; omega
      · obtain rfl : k = A.length := by omega
        rw [HAL.out, List.drop_length] at hch
        have hch2 : M.skipAt (M.bs s) a = s.size := by rw [← LEN.out]; exact hch
        have S1 := Lib.hid (SK.out a wr ha)
        rw [hch2] at S1
        have g1 : ((s.size : Int) == (s.size : Int)) = true := by simp
        have B2 := Lib.hid (bnext8 B1.out hB)
        clear hch hch2 hB HB
        go_wp2_with fail
        (with_reducible refine (S1.out).mono ?_)
        rintro e w3 ⟨rfl, rfl⟩
        go_wp2_with fail
        (with_reducible refine (AL.out _).mono ?_)
        rintro e w4 ⟨rfl, hb⟩
        have B4 := Lib.hid (bnext8 B2.out hb)
        clear hb
        go_wp2_with fail
        go_ret
        exact ⟨rfl, B4.out⟩
  · have hA := h2 hE
    subst hA
    obtain ⟨hl0, Aa, cap, rfl, hcap, hcells⟩ := hv
    have hE1 : (E != 0) = true := by rw [bne_iff_ne]; exact hE
    clear hr h1 h2 hb hcells
    go_wp2_with fail
    (with_reducible refine (AL.out _).mono ?_)
    rintro e w4 ⟨rfl, hb⟩
    have B4 := Lib.hid (bnext8 B1.out hb)
    clear hb
    go_wp2_with fail
    go_ret
    exact ⟨rfl, B4.out⟩
end tokenBetweenW
end Go.Proofs.Ytagdbbikhegoaaa
