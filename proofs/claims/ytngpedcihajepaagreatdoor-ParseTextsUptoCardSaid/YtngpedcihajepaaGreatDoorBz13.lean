/-
 Merged out of the texts Sa9 Sb9 Sc9 Sd9 Se9 Sf9.
-/
import Derived.OwnWalk
import Derived.Deep.RegionHeld3
import Derived.WalkKit
import Derived.ProofKit
import Derived.ChangeMaps5
import Derived.Test.YtngpedcihajepaaGreatDoorProg
import Derived.Lib.MinMax
import Derived.WalkSpells
import Derived.WalkLawsBesides
import Derived.Lib.Hide
import Derived.Below
import Derived.Deep.QuietTactic
import Derived.BigQuiet
import Derived.Still
import Derived.Test.YtngpedcihajepaaGreatDoorBz1
import Derived.Test.YtngpedcihajepaaGreatDoorBz2
import Derived.Test.YtngpedcihajepaaGreatDoorBz3
import Derived.Test.YtngpedcihajepaaGreatDoorBz4
import Derived.Test.YtngpedcihajepaaGreatDoorBz5
import Derived.Test.YtngpedcihajepaaGreatDoorBz6
import Derived.Test.YtngpedcihajepaaGreatDoorBz11
import Derived.Test.YtngpedcihajepaaGreatDoorBz12
import Derived.Test.YtngpedcihajepaaGreatDoorSq9
set_option linter.unusedVariables false
set_option linter.unusedSimpArgs false
set_option maxRecDepth 100000
set_option maxHeartbeats 40000000
namespace Go.Proofs.YtngpedcihajepaaGreatDoor
open Go.RowKit
theorem own_below9 {w w' : World} {base : Nat} {e : TypeId} {size : Nat} {v : Value} {n : Nat} {xs : List Value} (h : w.ownsRow base e size v n xs) (hb : Below w.heap.size w w') : w'.ownsRow base e size v n xs := by
 obtain ⟨h1, h2⟩ := h
 refine ⟨h1, ?_⟩
 rcases h2 with h2 | ⟨g, cap, cur, hv, hg, hh, r⟩
 ·exact .inl h2
 ·exact .inr ⟨g, cap, cur, hv, hg, (hb.block g (Array.getElem?_eq_some_iff.1 hh).1).trans hh, r⟩
theorem infoStr : (Tryz.prog.info? 9).map (fun i => (i.zero, i.size, i.bytes)) = some (some (.string ⟨#[]⟩), 1, 16) := by kernel_rfl
theorem infoStr2 : ∃ i, Tryz.prog.info? 9 = some i /\ i.zero = some (.string ⟨#[]⟩) /\ i.size = 1 /\ i.bytes = 16 := by
 have h := infoStr
 cases hq : Tryz.prog.info? 9 with
 | none => rw [hq] at h; cases h
 | some i => rw [hq] at h; simp only [Option.map_some, Option.some.injEq, Prod.mk.injEq] at h; exact ⟨i, rfl, h.1, h.2.1, h.2.2⟩
def OwnS (w : World) (base : Nat) (v : Value) (L : List ByteArray) : Prop := w.ownsRow base 9 1 v L.length (L.map Value.string)
theorem OwnS.below {w w' : World} {base : Nat} {v : Value} {L : List ByteArray} (h : OwnS w base v L) (hb : Below w.heap.size w w') : OwnS w' base v L := own_below9 h hb
theorem OwnS.strs {w : World} {base : Nat} {v : Value} {L : List ByteArray} (hl : L.length <= 1000000) (h : OwnS w base v L) : StrS w v L := by
 unfold OwnS at h
 have hcells := fun g hg => h.cells (g := g) hg
 rcases h.2 with ⟨rfl, h0⟩ | ⟨g, cap, cur, rfl, hb, hg, hc, _⟩
 ·exact ⟨hl, none, 0, by rw [h0], fun h => by omega⟩
 ·refine ⟨hl, some ⟨g, 0, none⟩, cap, rfl, fun _ => ⟨g, 0, rfl, fun i hi => ?_⟩⟩
  have e0 := hcells g rfl i (.string (L.getD i ByteArray.empty)) (by rw [List.getElem?_map, List.getElem?_eq_getElem hi, List.getD_eq_getElem?_getD, List.getElem?_eq_getElem hi]; rfl)
  rw [Addr.add_lit] at e0
  exact e0
theorem StrS.below {w w' : World} {v : Value} {L : List ByteArray} (h : StrS w v L) (hb : Below w.heap.size w w') : StrS w' v L := by
 obtain ⟨h1, A, cap, rfl, h2⟩ := h
 refine ⟨h1, A, cap, rfl, fun h0 => ?_⟩
 obtain ⟨b, off, rfl, h3⟩ := h2 h0
 exact ⟨b, off, rfl, fun i hi => (hb.cell (p := ⟨b, _, none⟩) (World.block_lt_of_cell? w _ (h3 i hi))).trans (h3 i hi)⟩
namespace M
def joinW (b : List Nat) : List (List Nat) -> List Nat
 | [] => []
 | [x] => x
 | x :: y :: r => x ++ b ++ joinW b (y :: r)
theorem joinW_snoc (b x : List Nat) : ∀ l : List (List Nat), l ≠ [] -> joinW b (l ++ [x]) = joinW b l ++ b ++ x
 | [], h => absurd rfl h
 | [a], _ => by simp [joinW]
 | a :: c :: r, _ => by
  have ih := joinW_snoc b x (c :: r) (by simp)
  simp only [List.cons_append, joinW] at ih ⊢
  rw [ih]; simp only [List.append_assoc]
theorem joinW_take_len (b : List Nat) : ∀ (l : List (List Nat)) (k : Nat), (joinW b (l.take k)).length <= (joinW b l).length
 | [], k => by simp
 | [a], 0 => by simp [joinW]
 | [a], k + 1 => by simp
 | a :: c :: r, 0 => by simp [joinW]
 | a :: c :: r, 1 => by simp only [List.take_succ_cons, List.take_zero, joinW, List.length_append]; omega
 | a :: c :: r, k + 2 => by
  have ih := joinW_take_len b (c :: r) (k + 1)
  simp only [List.take_succ_cons, joinW, List.length_append] at ih ⊢
  omega
theorem size_app (a b : ByteArray) : (a ++ b).size = a.size + b.size := by
 rw [<- bs_len, bs_append, List.length_append, bs_len, bs_len]
theorem take_snoc {l : List ByteArray} {k : Nat} (h : k < l.length) : l.take (k + 1) = l.take k ++ [l.getD k ByteArray.empty] := by
 rw [List.take_add_one, List.getD_eq_getElem?_getD, List.getElem?_eq_getElem h]; rfl
end M
theorem joined_any (v : Value) (L : List ByteArray) (b : ByteArray) (w : World) (hv : StrS w v L) (hln : (M.joinW (M.bs b) (L.map M.bs)).length <= 4611686018427387904) : Calls Tryz.prog 104 #[v, .string b] w fun e w' => (∃ T, e = .returned (.string T) /\ M.bs T = M.joinW (M.bs b) (L.map M.bs)) /\ w' = w := by
 have hud := hud9
 obtain ⟨hl, A, cap, rfl, hc⟩ := hv
 have HC := Lib.hid hc
 clear hc
 obtain ⟨n, en⟩ : ∃ n, n = L.length := ⟨_, rfl⟩
 rw [<- en] at HC hl ⊢
 have HN := Lib.hid en
 have LN := Lib.hid fun k => Nat.le_trans (M.joinW_take_len (M.bs b) (L.map M.bs) k) hln
 clear en hln
 go_enter Tryz.func104, Tryz.ntmps104
 go_wp2_with fail
 go_loop [5, 10] (fun ts ti => ∃ (i : Nat) (T : ByteArray), i <= n /\ ti = .int .i64 i /\ ts = .string T /\ M.bs T = M.joinW (M.bs b) ((L.take i).map M.bs)) (fun _ ti => n - (intOf ti).toNat)
 case atStart => exact ⟨0, ⟨#[]⟩, by omega, rfl, rfl, rfl⟩
 case round =>
  obtain ⟨i, T, hi, rfl, rfl, hT⟩ := hrel
  have HT := Lib.hid hT
  clear hT
  by_cases hlt : i < n
  ·obtain ⟨b2, off, rfl, hcell⟩ := HC.out (by omega)
   have hx := hcell i hlt
   obtain ⟨x, ex⟩ : ∃ x, x = L.getD i ByteArray.empty := ⟨_, rfl⟩
   rw [<- ex] at hx
   have HX := Lib.hid (show L.take (i + 1) = L.take i ++ [x] by rw [ex]; exact M.take_snoc (by rw [<- HN.out]; exact hlt))
   clear hcell ex
   by_cases h0 : i = 0
   ·subst h0
    have hT0 : T.size = 0 := by have := HT.out; simp [M.joinW] at this; rw [<- M.bs_len, this]; rfl
    have hj := LN.out 1
    rw [<- List.map_take, HX.out] at hj
    simp only [List.take_zero, List.nil_append, List.map_cons, List.map_nil, M.joinW, M.bs_len] at hj
    have hs1 : T.size + x.size <= 9223372036854775807 := by omega
    simp only [Nat.add_zero] at hx
    clear hj hT0
    go_wp2_with fail
    go_round
    case rel => exact ⟨1, _, by omega, by go_num, rfl, by have := HT.out; rw [HX.out, M.bs_append, this]; simp [M.joinW]⟩
    case measure => simp [intOf]; omega
   ·have g0 : decide ((i : Int) > 0) = true := by rw [decide_eq_true_eq]; omega
    have hne : (L.take i).map M.bs ≠ [] := by
     intro e
     have := congrArg List.length e
     rw [List.length_map, List.length_take, <- HN.out] at this
     simp at this
     omega
    have HNE := Lib.hid hne
    have hj := LN.out (i + 1)
    rw [<- List.map_take, HX.out, List.map_append, List.map_cons, List.map_nil, M.joinW_snoc _ _ _ hne, List.length_append, List.length_append, <- HT.out, M.bs_len, M.bs_len, M.bs_len] at hj
    have hs1 : T.size + b.size <= 9223372036854775807 := by omega
    have hs2 : (T ++ b).size + x.size <= 9223372036854775807 := by rw [M.size_app]; omega
    have hpos : 0 < i := by omega
    clear h0 hne hj
    go_wp2_with fail
    go_round
    case rel => exact ⟨i + 1, _, by omega, by go_num, rfl, by rw [HX.out, List.map_append, List.map_singleton, M.joinW_snoc _ _ _ HNE.out, M.bs_append, M.bs_append, HT.out]⟩
    case measure => simp [intOf]; omega
  ·obtain rfl : i = n := by omega
   go_wp2_with fail
   go_ret
   exact ⟨⟨T, rfl, by rw [HT.out, HN.out, List.take_length]⟩, rfl⟩
theorem deeper_any (v : Value) (L : List ByteArray) (w : World) (hv : StrS w v L) (hln : ∀ i, i < L.length -> (L.getD i ByteArray.empty).size <= 4611686018427387904) : Calls Tryz.prog 103 #[v] w fun e w' => (∃ v', e = .returned v' /\ OwnS w' w.heap.size v' (L.map fun x => ⟨#[32, 32]⟩ ++ x)) /\ Below w.heap.size w w' := by
 have hud := hud9
 have hv0 := hv
 obtain ⟨hl, A, cap, rfl, hc⟩ := hv
 have HV := Lib.hid hc
 obtain ⟨n, en⟩ : ∃ n, n = L.length := ⟨_, rfl⟩
 rw [<- en] at HV hl ⊢ hln
 have HN := Lib.hid en
 have LN := Lib.hid hln
 clear en hc hv0 hln
 have HB0 := Lib.hid (Below.refl w.heap.size w)
 obtain ⟨i0, hi0, hz0, hz1, hz2⟩ := infoStr2
 go_enter Tryz.func103, Tryz.ntmps103
 go_wp2_with fail
 go_loopw [3, 8] (fun tl ti wr => ∃ i : Nat, i <= n /\ ti = .int .i64 i /\ OwnS wr w.heap.size tl ((L.take i).map fun x => ⟨#[32, 32]⟩ ++ x) /\ Below w.heap.size w wr) (fun _ ti _ => n - (intOf ti).toNat)
 case atStart => exact ⟨0, by omega, rfl, World.ownsRow_nil _ _ _ _, HB0.out⟩
 case round =>
  obtain ⟨i, hi, rfl, hO, hB⟩ := hrel
  have HO := Lib.hid hO
  have HB := Lib.hid hB
  clear hO hB
  by_cases hlt : i < n
  ·obtain ⟨b2, off, rfl, hcell⟩ := HV.out (by omega)
   have hx0 := hcell i hlt
   have hx := (HB.out.cell (p := ⟨b2, _, none⟩) (World.block_lt_of_cell? w _ hx0)).trans hx0
   obtain ⟨x, ex⟩ : ∃ x, x = L.getD i ByteArray.empty := ⟨_, rfl⟩
   have hxl := LN.out i hlt
   rw [<- ex] at hx hxl
   have hs2 : ByteArray.size ⟨#[32, 32]⟩ + x.size <= 9223372036854775807 := by show 2 + x.size <= _; omega
   have HX := Lib.hid (show L.take (i + 1) = L.take i ++ [x] by rw [ex]; exact M.take_snoc (by rw [<- HN.out]; exact hlt))
   have HL := Lib.hid (show ((L.take i).map fun x => (⟨#[32, 32]⟩ : ByteArray) ++ x).length = i by rw [List.length_map, List.length_take, <- HN.out]; omega)
   clear hcell ex hx0
   go_wp2_with (at_builtin; refine wpList_append_own _ rfl _ _ 44 rfl w.heap.size 9 i0 (.string ⟨#[]⟩) 1 16 Tryz.underlying44 hi0 hz0 hz1 hz2 rfl (by decide) _ _ _ rfl (HO.out.alloc _) ⟨wr.heap.size, 0, none⟩ 1 1 [.string (⟨#[32, 32]⟩ ++ x)] rfl rfl ?d1 ?d2 ?d3 ?d4 ?d5 ?_)
   case d1 => intro j u hu; rw [Addr.add_lit]; match j, hu with | 0, hu => simpa using hu
   case d2 => intro u hu; simp at hu; subst hu; rfl
   case d3 => have := HL.out; unfold maxLen; omega
   case d4 => have := HL.out; omega
   case d5 => have := HB.out.size; simp; omega
   intro v' w2 hown hgrow _
   have HB2 := Lib.hid ((HB.out.alloc HB.out.size _).grown hgrow (by have := HB.out.size; simp; omega) (fun j e => by have := (HO.out.lt j e).1; omega))
   have HO2 := Lib.hid (show OwnS w2 w.heap.size v' ((L.take (i + 1)).map fun x => ⟨#[32, 32]⟩ ++ x) by
    unfold OwnS
    rw [HX.out]; simpa using hown)
   clear hown hgrow
   go_wp2_with fail
   go_roundw
   case rel => exact ⟨i + 1, by omega, by go_num, HO2.out, HB2.out⟩
   case measure => simp [intOf]; omega
  ·obtain rfl : i = n := by omega
   go_wp2_with fail
   go_ret
   refine ⟨⟨_, rfl, ?_⟩, HB.out⟩
   have := HO.out
   rw [HN.out, List.take_length] at this
   exact this
namespace M
theorem digitsL_lenP : ∀ (k n : Nat), n < 10 ^ (k + 1) -> (digitsL n).length <= k + 1
 | 0, n, h => by rw [digitsL, if_pos (by simpa using h)]; simp
 | k + 1, n, h => by
  rw [digitsL]
  by_cases h1 : n < 10
  ·rw [if_pos h1]; simp
  ·rw [if_neg h1, List.length_append]
   have := digitsL_lenP k (n / 10) (by rw [Nat.div_lt_iff_lt_mul (by omega), <- Nat.pow_succ]; exact h)
   simp; omega
theorem digitsL_len20 {n : Nat} (h : n < 18446744073709551616) : (digitsL n).length <= 20 := digitsL_lenP 19 n (by omega)
def typeT (t : Tree) : List Nat :=
 (if t.num = 2 then [98, 105, 116] else if t.num = 3 then [119, 111, 114, 100, 32] ++ digitsL (t.kids.getD 0 Tree.no).num else [110, 117, 109]) ++
 (if 0 < (t.kids.getD 1 Tree.no).num then [91] ++ digitsL (t.kids.getD 1 Tree.no).num ++ [93] else [])
end M
theorem NodeV.num {w : World} {v : Value} {t : M.Tree} (h : NodeV w v t) : t.num < 18446744073709551616 := by
 obtain ⟨_, _, _, _, ⟨_, h, _⟩, _⟩ := h; exact h
def FnS (f : Nat) (p : M.Tree -> List Nat) (t : M.Tree) : Prop := ∀ (v : Value) (w : World), NodeV w v t -> Calls Tryz.prog f #[v] w fun e w' => (∃ T, e = .returned (.string T) /\ M.bs T = p t) /\ Below w.heap.size w w'
theorem rdig9 (n : Nat) (w : World) (hn : n < 18446744073709551616) : Calls Tryz.prog 101 #[.int .u64 n] w fun e w' => ∃ T : ByteArray, e = .returned (.string T) /\ M.bs T = M.digitsL n /\ T.size <= 20 /\ Below w.heap.size w w' :=
 (rdigits_any n w hn).mono fun e w' ⟨T, h1, h2, h3⟩ => ⟨T, h1, h2, by rw [<- M.bs_len, h2]; exact M.digitsL_len20 hn, h3⟩
theorem rtypeText_any (t : M.Tree) (hl2 : t.kids.length = 2) : FnS 100 M.typeT t := by
 intro v w hv
 have hud := hud9
 obtain ⟨T, kv, rfl, hT, hok, hk⟩ := hv
 obtain ⟨r, er⟩ : ∃ r, r = M.typeT t := ⟨_, rfl⟩
 rw [<- er]
 unfold M.typeT at er
 obtain ⟨K, eK⟩ : ∃ K, K = t.kind := ⟨_, rfl⟩
 obtain ⟨n, en⟩ : ∃ n, n = t.num := ⟨_, rfl⟩
 obtain ⟨l, el⟩ : ∃ l, l = t.kids := ⟨_, rfl⟩
 rw [<- en, <- el] at er
 rw [<- eK, <- en]
 rw [<- el] at hk hl2
 obtain ⟨A, cap, rfl, _⟩ := id hk
 have hn := hok.2.1
 rw [<- en] at hn
 have S0 := Lib.hid (NB.start w K T n (.slice A l.length cap))
 have HKK := Lib.hid hk
 clear hT hok hk eK en el
 obtain ⟨ba, oa, Ta, Aa, ma, cca, hAa, al, a0, a1, a2, a3, av⟩ := HKK.out.at 0 (by omega)
 cases hAa
 obtain ⟨ua, eua⟩ : ∃ u, u = l.getD 0 M.Tree.no := ⟨_, rfl⟩
 rw [<- eua] at a0 a2 av er
 obtain ⟨ka, eka⟩ : ∃ k, k = ua.kind := ⟨_, rfl⟩
 obtain ⟨na, ena⟩ : ∃ k, k = ua.num := ⟨_, rfl⟩
 rw [<- eka] at a0 av
 rw [<- ena] at a2 av
 simp only [show 0 * 4 = 0 from rfl, Nat.add_zero] at a0 a1 a2 a3
 have hia : 0 < l.length := by omega
 have Va := Lib.hid av
 have ba := Va.out.num
 rw [<- ena] at ba er
 have Da := Lib.hid fun w' (_ : Below w.heap.size w w') => rdig9 na w' ba
 clear ba
 clear av eua eka ena
 obtain ⟨qa0, qa1, qa2, qa3⟩ := bel4 S0.out.below al a0 a1 a2 a3
 obtain ⟨bb, ob, Tb, Ab, mb, ccb, hAb, bl, b0, b1, b2, b3, bv⟩ := HKK.out.at 1 (by omega)
 cases hAb
 obtain ⟨ub, eub⟩ : ∃ u, u = l.getD 1 M.Tree.no := ⟨_, rfl⟩
 rw [<- eub] at b0 b2 bv er
 obtain ⟨kb, ekb⟩ : ∃ k, k = ub.kind := ⟨_, rfl⟩
 obtain ⟨nb, enb⟩ : ∃ k, k = ub.num := ⟨_, rfl⟩
 rw [<- ekb] at b0 bv
 rw [<- enb] at b2 bv
 simp only [show 1 * 4 = 4 from rfl] at b0 b1 b2 b3
 have hib : 1 < l.length := by omega
 have Vb := Lib.hid bv
 have bb := Vb.out.num
 rw [<- enb] at bb er
 have Db := Lib.hid fun w' (_ : Below w.heap.size w w') => rdig9 nb w' bb
 clear bb
 clear bv eub ekb enb
 obtain ⟨qb0, qb1, qb2, qb3⟩ := bel4 S0.out.below bl b0 b1 b2 b3
 clear hl2
 by_cases c0 : n = 2
 ·have g2 : ((n : Int) == 2) = true := by rw [beq_iff_eq]; omega
  have C0 := Lib.hid c0
  clear c0
  by_cases c1 : 0 < nb
  ·have g0 : decide ((nb : Int) > 0) = true := by rw [decide_eq_true_eq]; omega
   have C1 := Lib.hid c1
   clear c1
   rw [if_pos C0.out, if_pos C1.out] at er
   have ER := Lib.hid er
   clear er
   go_enter Tryz.func100, Tryz.ntmps100
   go_wp2_with fail
   (with_reducible refine (Db.out _ S0.out.below).mono ?_)
   rintro e w1 ⟨T1, rfl, hT1, hz1, hb⟩
   have S1 := Lib.hid (S0.out.next hb)
   have Eb := Lib.hid hT1
   obtain ⟨-, -, y0, y1, y2, y3⟩ := id S1.out
   obtain ⟨qa0, qa1, qa2, qa3⟩ := bel4 S1.out.below al a0 a1 a2 a3
   obtain ⟨qb0, qb1, qb2, qb3⟩ := bel4 S1.out.below bl b0 b1 b2 b3
   clear hb hT1
   go_wp2_with fail
   go_ret
   exact ⟨⟨_, rfl, by rw [ER.out]; first | rfl | (simp only [M.bs_append, Ea.out, Eb.out, List.append_nil]; done) | (simp only [M.bs_append, Ea.out, Eb.out, List.append_nil]; rfl) | (simp only [M.bs_append, Ea.out, List.append_nil]; rfl) | (simp only [M.bs_append, Eb.out, List.append_nil]; rfl)⟩, S1.out.below⟩
  ·have g0 : decide ((nb : Int) > 0) = false := by rw [decide_eq_false_iff_not]; omega
   have C1 := Lib.hid c1
   clear c1
   rw [if_pos C0.out, if_neg C1.out] at er
   have ER := Lib.hid er
   clear er
   go_enter Tryz.func100, Tryz.ntmps100
   go_wp2_with fail
   go_ret
   exact ⟨⟨_, rfl, by rw [ER.out]; first | rfl | (simp only [M.bs_append, Ea.out, Eb.out, List.append_nil]; done) | (simp only [M.bs_append, Ea.out, Eb.out, List.append_nil]; rfl) | (simp only [M.bs_append, Ea.out, List.append_nil]; rfl) | (simp only [M.bs_append, Eb.out, List.append_nil]; rfl)⟩, S0.out.below⟩
 ·have g2 : ((n : Int) == 2) = false := by rw [beq_eq_false_iff_ne]; omega
  have C0 := Lib.hid c0
  clear c0
  by_cases c1 : n = 3
  ·have g3 : ((n : Int) == 3) = true := by rw [beq_iff_eq]; omega
   have C1 := Lib.hid c1
   clear c1
   by_cases c2 : 0 < nb
   ·have g0 : decide ((nb : Int) > 0) = true := by rw [decide_eq_true_eq]; omega
    have C2 := Lib.hid c2
    clear c2
    rw [if_neg C0.out, if_pos C1.out, if_pos C2.out] at er
    have ER := Lib.hid er
    clear er
    go_enter Tryz.func100, Tryz.ntmps100
    go_wp2_with fail
    (with_reducible refine (Da.out _ S0.out.below).mono ?_)
    rintro e w1 ⟨T1, rfl, hT1, hz1, hb⟩
    have S1 := Lib.hid (S0.out.next hb)
    have Ea := Lib.hid hT1
    obtain ⟨-, -, y0, y1, y2, y3⟩ := id S1.out
    obtain ⟨qa0, qa1, qa2, qa3⟩ := bel4 S1.out.below al a0 a1 a2 a3
    obtain ⟨qb0, qb1, qb2, qb3⟩ := bel4 S1.out.below bl b0 b1 b2 b3
    clear hb hT1
    go_wp2_with fail
    (with_reducible refine (Db.out _ S1.out.below).mono ?_)
    rintro e w2 ⟨T2, rfl, hT2, hz2, hb⟩
    have S2 := Lib.hid (S1.out.next hb)
    have Eb := Lib.hid hT2
    obtain ⟨-, -, y0, y1, y2, y3⟩ := id S2.out
    obtain ⟨qa0, qa1, qa2, qa3⟩ := bel4 S2.out.below al a0 a1 a2 a3
    obtain ⟨qb0, qb1, qb2, qb3⟩ := bel4 S2.out.below bl b0 b1 b2 b3
    clear hb hT2
    go_wp2_with fail
    go_ret
    exact ⟨⟨_, rfl, by rw [ER.out]; first | rfl | (simp only [M.bs_append, Ea.out, Eb.out, List.append_nil]; done) | (simp only [M.bs_append, Ea.out, Eb.out, List.append_nil]; rfl) | (simp only [M.bs_append, Ea.out, List.append_nil]; rfl) | (simp only [M.bs_append, Eb.out, List.append_nil]; rfl)⟩, S2.out.below⟩
   ·have g0 : decide ((nb : Int) > 0) = false := by rw [decide_eq_false_iff_not]; omega
    have C2 := Lib.hid c2
    clear c2
    rw [if_neg C0.out, if_pos C1.out, if_neg C2.out] at er
    have ER := Lib.hid er
    clear er
    go_enter Tryz.func100, Tryz.ntmps100
    go_wp2_with fail
    (with_reducible refine (Da.out _ S0.out.below).mono ?_)
    rintro e w1 ⟨T1, rfl, hT1, hz1, hb⟩
    have S1 := Lib.hid (S0.out.next hb)
    have Ea := Lib.hid hT1
    obtain ⟨-, -, y0, y1, y2, y3⟩ := id S1.out
    obtain ⟨qa0, qa1, qa2, qa3⟩ := bel4 S1.out.below al a0 a1 a2 a3
    obtain ⟨qb0, qb1, qb2, qb3⟩ := bel4 S1.out.below bl b0 b1 b2 b3
    clear hb hT1
    go_wp2_with fail
    go_ret
    exact ⟨⟨_, rfl, by rw [ER.out]; first | rfl | (simp only [M.bs_append, Ea.out, Eb.out, List.append_nil]; done) | (simp only [M.bs_append, Ea.out, Eb.out, List.append_nil]; rfl) | (simp only [M.bs_append, Ea.out, List.append_nil]; rfl) | (simp only [M.bs_append, Eb.out, List.append_nil]; rfl)⟩, S1.out.below⟩
  ·have g3 : ((n : Int) == 3) = false := by rw [beq_eq_false_iff_ne]; omega
   have C1 := Lib.hid c1
   clear c1
   by_cases c2 : 0 < nb
   ·have g0 : decide ((nb : Int) > 0) = true := by rw [decide_eq_true_eq]; omega
    have C2 := Lib.hid c2
    clear c2
    rw [if_neg C0.out, if_neg C1.out, if_pos C2.out] at er
    have ER := Lib.hid er
    clear er
    go_enter Tryz.func100, Tryz.ntmps100
    go_wp2_with fail
    (with_reducible refine (Db.out _ S0.out.below).mono ?_)
    rintro e w1 ⟨T1, rfl, hT1, hz1, hb⟩
    have S1 := Lib.hid (S0.out.next hb)
    have Eb := Lib.hid hT1
    obtain ⟨-, -, y0, y1, y2, y3⟩ := id S1.out
    obtain ⟨qa0, qa1, qa2, qa3⟩ := bel4 S1.out.below al a0 a1 a2 a3
    obtain ⟨qb0, qb1, qb2, qb3⟩ := bel4 S1.out.below bl b0 b1 b2 b3
    clear hb hT1
    go_wp2_with fail
    go_ret
    exact ⟨⟨_, rfl, by rw [ER.out]; first | rfl | (simp only [M.bs_append, Ea.out, Eb.out, List.append_nil]; done) | (simp only [M.bs_append, Ea.out, Eb.out, List.append_nil]; rfl) | (simp only [M.bs_append, Ea.out, List.append_nil]; rfl) | (simp only [M.bs_append, Eb.out, List.append_nil]; rfl)⟩, S1.out.below⟩
   ·have g0 : decide ((nb : Int) > 0) = false := by rw [decide_eq_false_iff_not]; omega
    have C2 := Lib.hid c2
    clear c2
    rw [if_neg C0.out, if_neg C1.out, if_neg C2.out] at er
    have ER := Lib.hid er
    clear er
    go_enter Tryz.func100, Tryz.ntmps100
    go_wp2_with fail
    go_ret
    exact ⟨⟨_, rfl, by rw [ER.out]; first | rfl | (simp only [M.bs_append, Ea.out, Eb.out, List.append_nil]; done) | (simp only [M.bs_append, Ea.out, Eb.out, List.append_nil]; rfl) | (simp only [M.bs_append, Ea.out, List.append_nil]; rfl) | (simp only [M.bs_append, Eb.out, List.append_nil]; rfl)⟩, S0.out.below⟩
open Go.RowKit
namespace M
def exprW (k : Int) (tx : List Nat) (n : Nat) (ks : Int) (s : List (List Nat)) : List Nat :=
 if k = 14 then digitsL n
 else if k = 15 then tx
 else if k = 16 then tx ++ [40] ++ joinW [44, 32] s ++ [41]
 else if k = 18 then [91] ++ joinW [44, 32] s ++ [93]
 else if k = 19 then tx ++ s.getD 0 []
 else if k = 20 then [40] ++ s.getD 0 [] ++ [32] ++ tx ++ [32] ++ s.getD 1 [] ++ [41]
 else if ks = 19 then [40] ++ s.getD 0 [] ++ [41, 91] ++ s.getD 1 [] ++ [93]
 else s.getD 0 [] ++ [91] ++ s.getD 1 [] ++ [93]
mutual
def exprT : Tree -> List Nat
 | .node k tx n l => exprW k tx n (l.getD 0 Tree.no).kind (exprTL l)
def exprTL : List Tree -> List (List Nat)
 | [] => []
 | t :: r => exprT t :: exprTL r
end
theorem exprTL_map : ∀ l : List Tree, exprTL l = l.map exprT
 | [] => rfl
 | t :: r => by rw [exprTL, exprTL_map r]; rfl
theorem exprT_eq (t : Tree) : exprT t = exprW t.kind t.text t.num (t.kids.getD 0 Tree.no).kind (t.kids.map exprT) := by
 cases t with
 | node k tx n l => rw [exprT, exprTL_map]; rfl
mutual
def weight : Tree -> Nat
 | .node _ tx _ l => tx.length + 64 + weightL l
def weightL : List Tree -> Nat
 | [] => 0
 | t :: r => weight t + weightL r
end
theorem weight_eq (t : Tree) : weight t = t.text.length + 64 + weightL t.kids := by
 cases t with
 | node k tx n l => rw [weight]; rfl
theorem weight_mem {t : Tree} : ∀ {l : List Tree}, t ∈ l -> weight t <= weightL l
 | a :: r, h => by
  rw [weightL]
  rcases List.mem_cons.1 h with rfl | h
  ·omega
  ·have := weight_mem h; omega
theorem weight_kid {t k : Tree} (h : k ∈ t.kids) : weight k + t.text.length + 64 <= weight t := by
 have := weight_mem h
 rw [weight_eq t]; omega
theorem weight_two : ∀ {l : List Tree}, 2 <= l.length -> weight (l.getD 0 Tree.no) + weight (l.getD 1 Tree.no) <= weightL l
 | a :: b :: r, h => by simp only [weightL, List.getD_cons_zero, List.getD_cons_succ]; omega
theorem joinW_weight (p : Tree -> List Nat) : ∀ (l : List Tree), (∀ t, t ∈ l -> (p t).length + 8 <= weight t) -> (joinW [44, 32] (l.map p)).length <= weightL l
 | [], _ => by simp [joinW]
 | [a], h => by have := h a (by simp); simp only [List.map_cons, List.map_nil, joinW, weightL]; omega
 | a :: b :: r, h => by
  have ih := joinW_weight p (b :: r) (fun t ht => h t (by simp at ht ⊢; exact .inr ht))
  have := h a (by simp)
  simp only [List.map_cons, joinW, List.length_append] at ih ⊢
  rw [weightL]
  simp only [List.length_cons, List.length_nil]
  omega
def Shape (t : Tree) : Prop := (t.kind = 19 -> t.kids.length = 1) /\ (t.kind ≠ 14 -> t.kind ≠ 15 -> t.kind ≠ 16 -> t.kind ≠ 18 -> t.kind ≠ 19 -> t.kids.length = 2) /\ t.num < 18446744073709551616
theorem map_getD {p : Tree -> List Nat} {l : List Tree} {i : Nat} (h : i < l.length) : (l.map p).getD i [] = p (l.getD i Tree.no) := by
 rw [List.getD_eq_getElem?_getD, List.getElem?_map, List.getD_eq_getElem?_getD, List.getElem?_eq_getElem h]; rfl
theorem exprW_weight (t : Tree) (hs : Shape t) (h : ∀ u, u ∈ t.kids -> (exprT u).length + 8 <= weight u) : (exprT t).length + 8 <= weight t := by
 have hj := joinW_weight exprT t.kids h
 have hd := digitsL_len20 hs.2.2
 rw [exprT_eq, weight_eq]
 unfold exprW
 by_cases h14 : t.kind = 14
 ·rw [if_pos h14]; omega
 rw [if_neg h14]
 by_cases h15 : t.kind = 15
 ·rw [if_pos h15]; omega
 rw [if_neg h15]
 by_cases h16 : t.kind = 16
 ·rw [if_pos h16]; simp only [List.length_append, List.length_cons, List.length_nil]; omega
 rw [if_neg h16]
 by_cases h18 : t.kind = 18
 ·rw [if_pos h18]; simp only [List.length_append, List.length_cons, List.length_nil]; omega
 rw [if_neg h18]
 by_cases h19 : t.kind = 19
 ·have hl := hs.1 h19
  have h0 := h (t.kids.getD 0 Tree.no) (kid_mem (by omega))
  have h1 := weight_mem (kid_mem (l := t.kids) (i := 0) (by omega))
  rw [if_pos h19, map_getD (by omega)]; simp only [List.length_append]; omega
 rw [if_neg h19]
 have hl := hs.2.1 h14 h15 h16 h18 h19
 have h0 := h (t.kids.getD 0 Tree.no) (kid_mem (by omega))
 have h1 := h (t.kids.getD 1 Tree.no) (kid_mem (by omega))
 have h2 := weight_two (l := t.kids) (by omega)
 rw [map_getD (by omega), map_getD (by omega)]
 by_cases h20 : t.kind = 20
 ·rw [if_pos h20]; simp only [List.length_append, List.length_cons, List.length_nil]; omega
 rw [if_neg h20]
 by_cases hk : (t.kids.getD 0 Tree.no).kind = 19
 ·rw [if_pos hk]; simp only [List.length_append, List.length_cons, List.length_nil]; omega
 ·rw [if_neg hk]; simp only [List.length_append, List.length_cons, List.length_nil]; omega
end M
theorem rtexts_any (l : List M.Tree) (hl : l.length <= 1000000) (hx : ∀ i, i < l.length -> FnS 102 M.exprT (l.getD i M.Tree.no)) (v : Value) (w : World) (hv : KidsV w v l) : Calls Tryz.prog 140 #[v] w fun e w' => (∃ v' L, e = .returned v' /\ OwnS w' w.heap.size v' L /\ L.map M.bs = l.map M.exprT) /\ Below w.heap.size w w' := by
 have hud := hud9
 obtain ⟨A, cap, rfl, _⟩ := id hv
 obtain ⟨-, h1, h2, h3⟩ := hv.kid
 have HK := Lib.hid h3
 have HX := Lib.hid hx
 have HB0 := Lib.hid (Below.refl w.heap.size w)
 obtain ⟨i0, hi0, hz0, hz1, hz2⟩ := infoStr2
 clear h3 hx hv
 go_enter Tryz.func140, Tryz.ntmps140
 go_wp2_with fail
 go_loopw [3, 8] (fun tl ti wr => ∃ (i : Nat) (L : List ByteArray), i <= l.length /\ ti = .int .i64 i /\ L.length = i /\ OwnS wr w.heap.size tl L /\ L.map M.bs = (l.take i).map M.exprT /\ Below w.heap.size w wr) (fun _ ti _ => l.length - (intOf ti).toNat)
 case atStart => exact ⟨0, [], by omega, rfl, rfl, World.ownsRow_nil _ _ _ _, rfl, HB0.out⟩
 case round =>
  obtain ⟨k, L, hk, rfl, hL, hO, hM, hB⟩ := hrel
  have HO := Lib.hid hO
  have HB := Lib.hid hB
  have HM := Lib.hid hM
  have HL := Lib.hid hL
  clear hO hB hM hL
  by_cases hlt : k < l.length
  ·obtain ⟨b, off, rfl, hbl, hcell⟩ := HK.out (by omega)
   obtain ⟨T2, A2, n3, c3, x0, x1, x2, x3, hn⟩ := hcell k hlt
   have p0 := (HB.out.cell (p := ⟨b, off + k * 4, none⟩) hbl).trans x0
   have p1 := (HB.out.cell (p := ⟨b, off + k * 4 + 1, none⟩) hbl).trans x1
   have p2 := (HB.out.cell (p := ⟨b, off + k * 4 + 2, none⟩) hbl).trans x2
   have p3 := (HB.out.cell (p := ⟨b, off + k * 4 + 3, none⟩) hbl).trans x3
   have hc := HX.out k hlt
   have HT := Lib.hid (show (l.take (k + 1)).map M.exprT = (l.take k).map M.exprT ++ [M.exprT (l.getD k M.Tree.no)] by
    rw [List.take_add_one, List.getD_eq_getElem?_getD, List.getElem?_eq_getElem hlt, List.map_append]; rfl)
   obtain ⟨u, eu⟩ : ∃ u, u = l.getD k M.Tree.no := ⟨_, rfl⟩
   rw [<- eu] at p0 p2 hn hc HT
   obtain ⟨K2, eK2⟩ : ∃ K, K = u.kind := ⟨_, rfl⟩
   obtain ⟨n2, en2⟩ : ∃ n, n = u.num := ⟨_, rfl⟩
   rw [<- eK2] at p0 hn
   rw [<- en2] at p2 hn
   have HN := Lib.hid hn
   have HBX := Lib.hid fun o => HB.out.alloc HB.out.size o
   have CK := Lib.hid fun w' (hb : Below w.heap.size w w') => hc _ w' (HN.out.below hb)
   clear hcell x0 x1 x2 x3 eu eK2 en2 hn hc
   go_wp2_with fail
   (with_reducible refine (CK.out _ (HBX.out _)).mono ?_)
   rintro e w2 ⟨⟨T, rfl, hT⟩, hb2⟩
   have HB2 := Lib.hid ((HBX.out _).trans (hb2.mono (HBX.out _).size))
   have HO2 := Lib.hid (OwnS.below (HO.out.alloc _) hb2)
   have HTT := Lib.hid hT
   clear hb2 hT
   go_wp2_with (at_builtin; refine wpList_append_own _ rfl _ _ 44 rfl w.heap.size 9 i0 (.string ⟨#[]⟩) 1 16 Tryz.underlying44 hi0 hz0 hz1 hz2 rfl (by decide) _ _ _ rfl (World.ownsRow.alloc HO2.out _) ⟨w2.heap.size, 0, none⟩ 1 1 [.string T] rfl rfl ?d1 ?d2 ?d3 ?d4 ?d5 ?_)
   case d1 => intro j u hu; rw [Addr.add_lit]; match j, hu with | 0, hu => simpa using hu
   case d2 => intro u hu; simp at hu; subst hu; rfl
   case d3 => have := HL.out; unfold maxLen; omega
   case d4 => have := HL.out; omega
   case d5 => have := HB2.out.size; simp; omega
   intro v' w3 hown hgrow _
   have HB3 := Lib.hid ((HB2.out.alloc HB2.out.size _).grown hgrow (by have := HB2.out.size; simp; omega) (fun j e => by have := (HO2.out.lt j e).1; omega))
   have HO3 := Lib.hid (show OwnS w3 w.heap.size v' (L ++ [T]) by
    unfold OwnS
    simpa using hown)
   clear hown hgrow
   go_wp2_with fail
   go_roundw
   case rel => exact ⟨k + 1, L ++ [T], by omega, by go_num, by rw [List.length_append, HL.out]; rfl, HO3.out, by rw [HT.out, List.map_append, HM.out, List.map_singleton, HTT.out], HB3.out⟩
   case measure => simp [intOf]; omega
  ·obtain rfl : k = l.length := by omega
   go_wp2_with fail
   go_ret
   have := HM.out
   rw [List.take_length] at this
   exact ⟨⟨_, L, rfl, HO.out, this⟩, HB.out⟩
open Go.RowKit
namespace M
theorem exprF_shape {f : Nat} {t : Tree} (h : exprF (f + 1) t = true) : Shape t /\ (∀ u, u ∈ t.kids -> exprF f u = true) /\ (t.kind = 14 \/ t.kind = 15 \/ t.kind = 16 \/ t.kind = 17 \/ t.kind = 18 \/ t.kind = 19 \/ t.kind = 20) := by
 rw [exprF] at h
 have nokid : t.kids.length = 0 -> ∀ u, u ∈ t.kids -> exprF f u = true := fun h u hu => by rw [List.length_eq_zero_iff.1 h] at hu; simp at hu
 unfold Shape
 by_cases h14 : t.kind = 14
 ·rw [if_pos h14] at h
  have := of_decide_eq_true h
  exact ⟨⟨fun _ => by omega, fun h => by omega, by omega⟩, nokid this.2.2.2, .inl h14⟩
 rw [if_neg h14] at h
 by_cases h15 : t.kind = 15
 ·rw [if_pos h15] at h
  have := of_decide_eq_true h
  exact ⟨⟨fun _ => by omega, fun _ h => by omega, by omega⟩, nokid this.2.2, .inr (.inl h15)⟩
 rw [if_neg h15] at h
 by_cases h16 : t.kind = 16
 ·rw [if_pos h16] at h
  have := of_decide_eq_true h
  exact ⟨⟨fun _ => by omega, fun _ _ h => by omega, by omega⟩, List.all_eq_true.1 this.2.2, .inr (.inr (.inl h16))⟩
 rw [if_neg h16] at h
 by_cases h17 : t.kind = 17
 ·rw [if_pos h17] at h
  have := of_decide_eq_true h
  exact ⟨⟨fun _ => by omega, fun _ _ _ _ _ => this.2.2.1, by omega⟩, List.all_eq_true.1 this.2.2.2, .inr (.inr (.inr (.inl h17)))⟩
 rw [if_neg h17] at h
 by_cases h18 : t.kind = 18
 ·rw [if_pos h18] at h
  have := of_decide_eq_true h
  exact ⟨⟨fun _ => by omega, fun _ _ _ h => by omega, by omega⟩, List.all_eq_true.1 this.2.2.2, .inr (.inr (.inr (.inr (.inl h18))))⟩
 rw [if_neg h18] at h
 by_cases h19 : t.kind = 19
 ·rw [if_pos h19] at h
  have := of_decide_eq_true h
  obtain ⟨-, h1, h2, h3⟩ := this
  refine ⟨⟨fun _ => h2, fun _ _ _ _ h => by omega, by omega⟩, fun u hu => ?_, .inr (.inr (.inr (.inr (.inr (.inl h19)))))⟩
  obtain ⟨a, ea⟩ := List.length_eq_one_iff.1 h2
  rw [ea] at hu h3
  rw [List.mem_singleton.1 hu]; exact h3
 rw [if_neg h19] at h
 by_cases h20 : t.kind = 20
 ·rw [if_pos h20] at h
  have := of_decide_eq_true h
  exact ⟨⟨fun _ => by omega, fun _ _ _ _ _ => this.2.2.1, by omega⟩, List.all_eq_true.1 this.2.2.2, .inr (.inr (.inr (.inr (.inr (.inr h20)))))⟩
 rw [if_neg h20] at h
 cases h
theorem exprT_weight : ∀ (f : Nat) (t : Tree), exprF f t = true -> (exprT t).length + 8 <= weight t
 | 0, t, h => by rw [exprF] at h; cases h
 | f + 1, t, h => exprW_weight t (exprF_shape h).1 fun u hu => exprT_weight f u ((exprF_shape h).2.1 u hu)
theorem countL_len : ∀ l : List Tree, l.length <= countL l
 | [] => by simp [countL]
 | t :: r => by have := countL_len r; have := count_pos t; rw [countL, List.length_cons]; omega
theorem kids_len (t : Tree) : t.kids.length < count t := by
 cases t with
 | node k tx n l => have := countL_len l; rw [count]; show l.length < _; omega
theorem strs_at {L : List ByteArray} {Q : List (List Nat)} (h : L.map bs = Q) {i : Nat} (hi : i < L.length) : bs (L.getD i ByteArray.empty) = Q.getD i [] := by
 rw [<- h, List.getD_eq_getElem?_getD, List.getD_eq_getElem?_getD, List.getElem?_map, List.getElem?_eq_getElem hi]; rfl
end M
theorem rexprText_step (f : Nat) (ih : ∀ u, M.exprF f u = true -> M.count u <= 20000 -> M.weight u <= 4611686018427387904 -> FnS 102 M.exprT u)
  (t : M.Tree) (hF : M.exprF (f + 1) t = true) (hcnt : M.count t <= 20000) (hwt : M.weight t <= 4611686018427387904) : FnS 102 M.exprT t := by
 intro v w hv
 have hud := hud9
 obtain ⟨hS, hK, hkinds⟩ := M.exprF_shape hF
 have hW := M.exprT_weight _ _ hF
 have hJ := M.joinW_weight M.exprT t.kids (fun u hu => M.exprT_weight f u (hK u hu))
 have hWT := M.weight_eq t
 have hS1 := hS.1
 have hS2 := hS.2.1
 have hkl := M.kids_len t
 have hIH : ∀ i, i < t.kids.length -> FnS 102 M.exprT (t.kids.getD i M.Tree.no) := fun i hi =>
  ih _ (hK _ (kid_mem hi)) (by have := M.count_kid (t := t) (kid_mem hi); omega) (by have := M.weight_kid (t := t) (kid_mem hi); omega)
 have hXW : ∀ i, i < t.kids.length -> (M.exprT (t.kids.getD i M.Tree.no)).length <= M.weightL t.kids := fun i hi => by
  have := M.exprT_weight f _ (hK _ (kid_mem (l := t.kids) hi)); have := M.weight_mem (kid_mem (l := t.kids) hi); omega
 have hX2 : 1 < t.kids.length -> (M.exprT (t.kids.getD 0 M.Tree.no)).length + (M.exprT (t.kids.getD 1 M.Tree.no)).length <= M.weightL t.kids := fun hi => by
  have a := M.exprT_weight f _ (hK _ (kid_mem (l := t.kids) (i := 0) (by omega)))
  have b := M.exprT_weight f _ (hK _ (kid_mem (l := t.kids) (i := 1) (by omega)))
  have := M.weight_two (l := t.kids) (by omega)
  omega
 obtain ⟨T, kv, rfl, hT, hok, hk⟩ := hv
 obtain ⟨r, er⟩ : ∃ r, r = M.exprT t := ⟨_, rfl⟩
 rw [<- er]
 rw [M.exprT_eq] at er
 unfold M.exprW at er
 obtain ⟨K, eK⟩ : ∃ K, K = t.kind := ⟨_, rfl⟩
 obtain ⟨tx, ex⟩ : ∃ x, x = t.text := ⟨_, rfl⟩
 obtain ⟨n, en⟩ : ∃ n, n = t.num := ⟨_, rfl⟩
 obtain ⟨l, el⟩ : ∃ l, l = t.kids := ⟨_, rfl⟩
 rw [<- eK, <- ex, <- en, <- el] at er
 rw [<- eK, <- en]
 rw [<- eK, <- el] at hS1 hS2
 rw [<- eK] at hkinds
 rw [<- ex] at hT
 rw [<- el] at hk hkl hJ hIH hXW hX2
 rw [<- el] at hWT
 obtain ⟨A, cap, rfl, _⟩ := id hk
 have HTX := Lib.hid hT
 have hn := hok.2.1
 have hsz := hok.2.2
 rw [<- en] at hn
 have S0 := Lib.hid (NB.start w K T n (.slice A l.length cap))
 have HKK := Lib.hid hk
 have hll : l.length <= 20000 := by omega
 have hwl : M.weightL l <= 4611686018427387904 := by omega
 have TXS := Lib.hid fun w' (hb : Below w.heap.size w w') => rtexts_any l (by omega) hIH (.slice A l.length cap) w' (hk.below hb)
 have HJW := Lib.hid (Nat.le_trans hJ hwl)
 have HXW := Lib.hid fun i (hi : i < l.length) => Nat.le_trans (hXW i hi) hwl
 have HX2 := Lib.hid fun h => Nat.le_trans (hX2 h) hwl
 have DN := Lib.hid fun w' (_ : Below w.heap.size w w') => rdig9 n w' hn
 clear hX2 hok hk eK ex en el hS hK hW hJ hWT hkl hIH hXW hwt hcnt hF ih hT hwl
 by_cases c0 : K = 14
 ·have gk14 : (K == 14) = true := by rw [beq_iff_eq]; exact c0
  have C0 := Lib.hid c0
  clear c0
  rw [if_pos C0.out] at er
  have ER := Lib.hid er
  clear er
  clear hS1 hS2 hkinds
  go_enter Tryz.func102, Tryz.ntmps102
  go_wp2_with fail
  (with_reducible refine (TXS.out _ S0.out.below).mono ?_)
  rintro e w1 ⟨⟨v1, L, rfl, hO, hL⟩, hb⟩
  have S1 := Lib.hid (S0.out.next hb)
  obtain ⟨-, -, y0, y1, y2, y3⟩ := id S1.out
  have hLl : L.length = l.length := by have := congrArg List.length hL; simpa using this
  have hSt := hO.strs (by omega)
  obtain ⟨-, A1, cap1, rfl, hc1⟩ := id hSt
  have HL := Lib.hid hL
  have HST := Lib.hid hSt
  clear hb hO hL hSt hLl
  go_wp2_with fail
  (with_reducible refine (DN.out _ S1.out.below).mono ?_)
  rintro e w2 ⟨TD, rfl, hTD, hzD, hb⟩
  have S2 := Lib.hid (S1.out.next hb)
  have ED := Lib.hid hTD
  clear hb hTD
  go_wp2_with fail
  go_ret
  exact ⟨⟨_, rfl, by rw [ER.out]; exact ED.out⟩, S2.out.below⟩
 ·have gk14 : (K == 14) = false := by rw [beq_eq_false_iff_ne]; exact c0
  have C0 := Lib.hid c0
  clear c0
  by_cases c1 : K = 15
  ·have gk15 : (K == 15) = true := by rw [beq_iff_eq]; exact c1
   have C1 := Lib.hid c1
   clear c1
   rw [if_neg C0.out, if_pos C1.out] at er
   have ER := Lib.hid er
   clear er
   clear hS1 hS2 hkinds
   go_enter Tryz.func102, Tryz.ntmps102
   go_wp2_with fail
   (with_reducible refine (TXS.out _ S0.out.below).mono ?_)
   rintro e w1 ⟨⟨v1, L, rfl, hO, hL⟩, hb⟩
   have S1 := Lib.hid (S0.out.next hb)
   obtain ⟨-, -, y0, y1, y2, y3⟩ := id S1.out
   have hLl : L.length = l.length := by have := congrArg List.length hL; simpa using this
   have hSt := hO.strs (by omega)
   obtain ⟨-, A1, cap1, rfl, hc1⟩ := id hSt
   have HL := Lib.hid hL
   have HST := Lib.hid hSt
   clear hb hO hL hSt hLl
   go_wp2_with fail
   go_ret
   exact ⟨⟨_, rfl, by rw [ER.out]; exact HTX.out⟩, S1.out.below⟩
  ·have gk15 : (K == 15) = false := by rw [beq_eq_false_iff_ne]; exact c1
   have C1 := Lib.hid c1
   clear c1
   by_cases c2 : K = 16
   ·have gk16 : (K == 16) = true := by rw [beq_iff_eq]; exact c2
    have C2 := Lib.hid c2
    clear c2
    rw [if_neg C0.out, if_neg C1.out, if_pos C2.out] at er
    have ER := Lib.hid er
    clear er
    clear hS1 hS2 hkinds
    go_enter Tryz.func102, Tryz.ntmps102
    go_wp2_with fail
    (with_reducible refine (TXS.out _ S0.out.below).mono ?_)
    rintro e w1 ⟨⟨v1, L, rfl, hO, hL⟩, hb⟩
    have S1 := Lib.hid (S0.out.next hb)
    obtain ⟨-, -, y0, y1, y2, y3⟩ := id S1.out
    have hLl : L.length = l.length := by have := congrArg List.length hL; simpa using this
    have hSt := hO.strs (by omega)
    obtain ⟨-, A1, cap1, rfl, hc1⟩ := id hSt
    have SD := Lib.hid S1.out.drew
    obtain ⟨-, -, d0, d1, d2, d3⟩ := id SD.out
    have HSD := Lib.hid (hSt.below (Below.refl _ _).drew)
    have JN := Lib.hid (joined_any _ L ⟨#[44, 32]⟩ w1.drew HSD.out (by rw [hL]; exact HJW.out))
    rw [hL] at JN
    have HL := Lib.hid hL
    have HST := Lib.hid hSt
    clear hb hO hL hSt hLl
    go_wp2_with fail
    try dsimp only [List.append]
    refine wp_region_lex (S := fun W' => W'.cell? ⟨w.heap.size, 1, none⟩ = some (.string T) /\ StrS W' (.slice A1 L.length cap1) L) (by kernel_rfl) (by kernel_rfl) (fun _ _ _ _ _ h => h) ?_ ?_
    ·exact ⟨d1, HSD.out⟩
    repeat (first
     | (refine LexH.pass (by rfl) ?_; (try simp only [Act.put, List.setIfInBounds_toArray, List.set_cons_zero, List.set_cons_succ]))
     | (refine LexH.yield (v := ?_) (by rfl) ?_ ?_; rotate_left 1; (· intro w hSw; (try dsimp only at hSw); go_simp; (try rw [if_neg (by first | omega | (simp only [M.size_app]; omega))]); (try rw [if_pos (by omega)]); try with_reducible rfl); (try simp only [Act.put, List.setIfInBounds_toArray, List.set_cons_zero, List.set_cons_succ]))
     | (refine LexH.alone (by rfl) (by kernel_rfl) (fun K hKK => ?_); go_simp; (go_at_call 104; (with_reducible refine (JN.out).mono ?_); rintro e w' ⟨⟨TJ, rfl, hTJ⟩, rfl⟩; have EJ := Lib.hid (hTJ.trans (show M.joinW (M.bs ⟨#[44, 32]⟩) (l.map M.exprT) = M.joinW [44, 32] (l.map M.exprT) from rfl)); have hJs : TJ.size <= 4611686018427387904 := (by rw [<- M.bs_len, EJ.out]; exact HJW.out); clear hTJ); go_wp2_with fail; refine hKK.out _ _ ?_ (fun hHeld => ?_); (· exact ⟨d1, HSD.out⟩); clear hKK K hHeld; (try simp only [Act.put, List.setIfInBounds_toArray, List.set_cons_zero, List.set_cons_succ])))
    refine LexH.nil ?_
    have S2 := SD
    go_wp2_with fail
    go_ret
    exact ⟨⟨_, rfl, by rw [ER.out, M.bs_append, M.bs_append, M.bs_append, HTX.out, EJ.out]; rfl⟩, S2.out.below⟩
   ·have gk16 : (K == 16) = false := by rw [beq_eq_false_iff_ne]; exact c2
    have C2 := Lib.hid c2
    clear c2
    by_cases c3 : K = 18
    ·have gk18 : (K == 18) = true := by rw [beq_iff_eq]; exact c3
     have C3 := Lib.hid c3
     clear c3
     rw [if_neg C0.out, if_neg C1.out, if_neg C2.out, if_pos C3.out] at er
     have ER := Lib.hid er
     clear er
     clear hS1 hS2 hkinds
     go_enter Tryz.func102, Tryz.ntmps102
     go_wp2_with fail
     (with_reducible refine (TXS.out _ S0.out.below).mono ?_)
     rintro e w1 ⟨⟨v1, L, rfl, hO, hL⟩, hb⟩
     have S1 := Lib.hid (S0.out.next hb)
     obtain ⟨-, -, y0, y1, y2, y3⟩ := id S1.out
     have hLl : L.length = l.length := by have := congrArg List.length hL; simpa using this
     have hSt := hO.strs (by omega)
     obtain ⟨-, A1, cap1, rfl, hc1⟩ := id hSt
     have JN := Lib.hid (joined_any _ L ⟨#[44, 32]⟩ w1 hSt (by rw [hL]; exact HJW.out))
     rw [hL] at JN
     have HL := Lib.hid hL
     have HST := Lib.hid hSt
     clear hb hO hL hSt hLl
     go_wp2_with fail
     (with_reducible refine (JN.out).mono ?_)
     rintro e w2 ⟨⟨TJ, rfl, hTJ⟩, rfl⟩
     have S2 := S1
     have EJ := Lib.hid (hTJ.trans (show M.joinW (M.bs ⟨#[44, 32]⟩) (l.map M.exprT) = M.joinW [44, 32] (l.map M.exprT) from rfl))
     have hJs : TJ.size <= 4611686018427387904 := by rw [<- M.bs_len, EJ.out]; exact HJW.out
     clear hTJ
     go_wp2_with fail
     go_ret
     exact ⟨⟨_, rfl, by rw [ER.out, M.bs_append, M.bs_append, EJ.out]; rfl⟩, S2.out.below⟩
    ·have gk18 : (K == 18) = false := by rw [beq_eq_false_iff_ne]; exact c3
     have C3 := Lib.hid c3
     clear c3
     by_cases c4 : K = 19
     ·have gk19 : (K == 19) = true := by rw [beq_iff_eq]; exact c4
      have C4 := Lib.hid c4
      clear c4
      rw [if_neg C0.out, if_neg C1.out, if_neg C2.out, if_neg C3.out, if_pos C4.out] at er
      have ER := Lib.hid er
      clear er
      have hl1 : 0 < l.length := by have := hS1 C4.out; omega
      clear hS1 hS2 hkinds
      go_enter Tryz.func102, Tryz.ntmps102
      go_wp2_with fail
      (with_reducible refine (TXS.out _ S0.out.below).mono ?_)
      rintro e w1 ⟨⟨v1, L, rfl, hO, hL⟩, hb⟩
      have S1 := Lib.hid (S0.out.next hb)
      obtain ⟨-, -, y0, y1, y2, y3⟩ := id S1.out
      have hLl : L.length = l.length := by have := congrArg List.length hL; simpa using this
      have hSt := hO.strs (by omega)
      obtain ⟨-, A1, cap1, rfl, hc1⟩ := id hSt
      have hc1' := hc1 (by omega)
      clear hc1
      obtain ⟨g1, of1, rfl, hcc⟩ := hc1'
      have z0 := hcc 0 (by omega)
      have x0 := HXW.out 0 (by omega)
      rw [<- M.map_getD (p := M.exprT) (by omega), <- M.strs_at hL (by omega), M.bs_len] at x0
      have e0 := M.strs_at hL (i := 0) (by omega)
      obtain ⟨X0, eX0⟩ : ∃ X, X = L.getD 0 ByteArray.empty := ⟨_, rfl⟩
      rw [<- eX0] at z0 x0 e0
      have E0 := Lib.hid e0
      have hx0 : 0 < L.length := by omega
      clear e0 eX0
      simp only [Nat.add_zero] at z0
      clear hcc
      have SD := Lib.hid S1.out.drew
      obtain ⟨-, -, d0, d1, d2, d3⟩ := id SD.out
      have zd0 := ((Below.refl _ _).drew.cell (p := ⟨_, _, none⟩) (World.block_lt_of_cell? w1 _ z0)).trans z0
      have HL := Lib.hid hL
      have HST := Lib.hid hSt
      clear hb hO hL hSt hLl
      go_wp2_with fail
      try dsimp only [List.append]
      refine wp_region_lex (S := fun W' => W'.cell? ⟨w.heap.size, 1, none⟩ = some (.string T) /\ W'.cell? ⟨g1, of1, none⟩ = some (.string X0)) (by kernel_rfl) (by kernel_rfl) (fun _ _ _ _ _ h => h) ?_ ?_
      ·exact ⟨d1, zd0⟩
      repeat (first
       | (refine LexH.pass (by rfl) ?_; (try simp only [Act.put, List.setIfInBounds_toArray, List.set_cons_zero, List.set_cons_succ]))
       | (refine LexH.yield (v := ?_) (by rfl) ?_ ?_; rotate_left 1; (· intro w hSw; (try dsimp only at hSw); go_simp; (try rw [if_neg (by first | omega | (simp only [M.size_app]; omega))]); (try rw [if_pos (by omega)]); try with_reducible rfl); (try simp only [Act.put, List.setIfInBounds_toArray, List.set_cons_zero, List.set_cons_succ])))
      refine LexH.nil ?_
      have S2 := SD
      go_wp2_with fail
      go_ret
      exact ⟨⟨_, rfl, by rw [ER.out, M.bs_append, HTX.out, E0.out]⟩, S2.out.below⟩
     ·have gk19 : (K == 19) = false := by rw [beq_eq_false_iff_ne]; exact c4
      have C4 := Lib.hid c4
      clear c4
      by_cases c5 : K = 20
      ·have gk20 : (K == 20) = true := by rw [beq_iff_eq]; exact c5
       have C5 := Lib.hid c5
       clear c5
       rw [if_neg C0.out, if_neg C1.out, if_neg C2.out, if_neg C3.out, if_neg C4.out, if_pos C5.out] at er
       have ER := Lib.hid er
       clear er
       have hl1 : 1 < l.length := by have := hS2 C0.out C1.out C2.out C3.out C4.out; omega
       clear hS1 hS2 hkinds
       go_enter Tryz.func102, Tryz.ntmps102
       go_wp2_with fail
       (with_reducible refine (TXS.out _ S0.out.below).mono ?_)
       rintro e w1 ⟨⟨v1, L, rfl, hO, hL⟩, hb⟩
       have S1 := Lib.hid (S0.out.next hb)
       obtain ⟨-, -, y0, y1, y2, y3⟩ := id S1.out
       have hLl : L.length = l.length := by have := congrArg List.length hL; simpa using this
       have hSt := hO.strs (by omega)
       obtain ⟨-, A1, cap1, rfl, hc1⟩ := id hSt
       have hc1' := hc1 (by omega)
       clear hc1
       obtain ⟨g1, of1, rfl, hcc⟩ := hc1'
       have z0 := hcc 0 (by omega)
       have x0 := HXW.out 0 (by omega)
       rw [<- M.map_getD (p := M.exprT) (by omega), <- M.strs_at hL (by omega), M.bs_len] at x0
       have e0 := M.strs_at hL (i := 0) (by omega)
       obtain ⟨X0, eX0⟩ : ∃ X, X = L.getD 0 ByteArray.empty := ⟨_, rfl⟩
       rw [<- eX0] at z0 x0 e0
       have E0 := Lib.hid e0
       have hx0 : 0 < L.length := by omega
       clear e0 eX0
       have z1 := hcc 1 (by omega)
       have x1 := HXW.out 1 (by omega)
       rw [<- M.map_getD (p := M.exprT) (by omega), <- M.strs_at hL (by omega), M.bs_len] at x1
       have e1 := M.strs_at hL (i := 1) (by omega)
       obtain ⟨X1, eX1⟩ : ∃ X, X = L.getD 1 ByteArray.empty := ⟨_, rfl⟩
       rw [<- eX1] at z1 x1 e1
       have E1 := Lib.hid e1
       have hx1 : 1 < L.length := by omega
       clear e1 eX1
       have x01 := HX2.out (by omega)
       rw [<- M.map_getD (p := M.exprT) (i := 0) (by omega), <- M.map_getD (p := M.exprT) (i := 1) (by omega), <- E0.out, <- E1.out, M.bs_len, M.bs_len] at x01
       simp only [Nat.add_zero] at z0
       clear hcc
       have SD := Lib.hid S1.out.drew
       obtain ⟨-, -, d0, d1, d2, d3⟩ := id SD.out
       have zd0 := ((Below.refl _ _).drew.cell (p := ⟨_, _, none⟩) (World.block_lt_of_cell? w1 _ z0)).trans z0
       have zd1 := ((Below.refl _ _).drew.cell (p := ⟨_, _, none⟩) (World.block_lt_of_cell? w1 _ z1)).trans z1
       have HL := Lib.hid hL
       have HST := Lib.hid hSt
       clear hb hO hL hSt hLl
       go_wp2_with fail
       try dsimp only [List.append]
       refine wp_region_lex (S := fun W' => W'.cell? ⟨w.heap.size, 1, none⟩ = some (.string T) /\ W'.cell? ⟨g1, of1, none⟩ = some (.string X0) /\ W'.cell? ⟨g1, of1 + 1, none⟩ = some (.string X1)) (by kernel_rfl) (by kernel_rfl) (fun _ _ _ _ _ h => h) ?_ ?_
       ·exact ⟨d1, zd0, zd1⟩
       repeat (first
        | (refine LexH.pass (by rfl) ?_; (try simp only [Act.put, List.setIfInBounds_toArray, List.set_cons_zero, List.set_cons_succ]))
        | (refine LexH.yield (v := ?_) (by rfl) ?_ ?_; rotate_left 1; (· intro w hSw; (try dsimp only at hSw); go_simp; (try rw [if_neg (by first | omega | (simp only [M.size_app]; omega))]); (try rw [if_pos (by omega)]); try with_reducible rfl); (try simp only [Act.put, List.setIfInBounds_toArray, List.set_cons_zero, List.set_cons_succ])))
       refine LexH.nil ?_
       have S2 := SD
       go_wp2_with fail
       go_ret
       exact ⟨⟨_, rfl, by rw [ER.out]; simp only [M.bs_append, HTX.out, E0.out, E1.out]; rfl⟩, S2.out.below⟩
      ·have gk20 : (K == 20) = false := by rw [beq_eq_false_iff_ne]; exact c5
       have C5 := Lib.hid c5
       clear c5
       by_cases c6 : l.length = 2
       ·obtain ⟨ba, oa, Ta, Aa, ma, cca, hAa, al, a0, a1, a2, a3, av⟩ := HKK.out.at 0 (by omega)
        cases hAa
        obtain ⟨ua, eua⟩ : ∃ u, u = l.getD 0 M.Tree.no := ⟨_, rfl⟩
        rw [<- eua] at a0 a2 av er
        obtain ⟨ka, eka⟩ : ∃ k, k = ua.kind := ⟨_, rfl⟩
        obtain ⟨na, ena⟩ : ∃ k, k = ua.num := ⟨_, rfl⟩
        rw [<- eka] at a0 av
        rw [<- ena] at a2 av
        simp only [show 0 * 4 = 0 from rfl, Nat.add_zero] at a0 a1 a2 a3
        have hia : 0 < l.length := by omega
        have Va := Lib.hid av
        rw [<- eka] at er
        clear av eua eka ena
        obtain ⟨qa0, qa1, qa2, qa3⟩ := bel4 S0.out.below al a0 a1 a2 a3
        have C6 := Lib.hid c6
        clear c6
        by_cases c7 : ka = 19
        ·have gka : (ka == 19) = true := by rw [beq_iff_eq]; exact c7
         have C7 := Lib.hid c7
         clear c7
         rw [if_neg C0.out, if_neg C1.out, if_neg C2.out, if_neg C3.out, if_neg C4.out, if_neg C5.out, if_pos C7.out] at er
         have ER := Lib.hid er
         clear er
         have hl1 : 1 < l.length := by have := C6.out; omega
         clear hS1 hS2 hkinds
         go_enter Tryz.func102, Tryz.ntmps102
         go_wp2_with fail
         (with_reducible refine (TXS.out _ S0.out.below).mono ?_)
         rintro e w1 ⟨⟨v1, L, rfl, hO, hL⟩, hb⟩
         have S1 := Lib.hid (S0.out.next hb)
         obtain ⟨-, -, y0, y1, y2, y3⟩ := id S1.out
         have hLl : L.length = l.length := by have := congrArg List.length hL; simpa using this
         have hSt := hO.strs (by omega)
         obtain ⟨-, A1, cap1, rfl, hc1⟩ := id hSt
         obtain ⟨qa0, qa1, qa2, qa3⟩ := bel4 S1.out.below al a0 a1 a2 a3
         have hc1' := hc1 (by omega)
         clear hc1
         obtain ⟨g1, of1, rfl, hcc⟩ := hc1'
         have z0 := hcc 0 (by omega)
         have x0 := HXW.out 0 (by omega)
         rw [<- M.map_getD (p := M.exprT) (by omega), <- M.strs_at hL (by omega), M.bs_len] at x0
         have e0 := M.strs_at hL (i := 0) (by omega)
         obtain ⟨X0, eX0⟩ : ∃ X, X = L.getD 0 ByteArray.empty := ⟨_, rfl⟩
         rw [<- eX0] at z0 x0 e0
         have E0 := Lib.hid e0
         have hx0 : 0 < L.length := by omega
         clear e0 eX0
         have z1 := hcc 1 (by omega)
         have x1 := HXW.out 1 (by omega)
         rw [<- M.map_getD (p := M.exprT) (by omega), <- M.strs_at hL (by omega), M.bs_len] at x1
         have e1 := M.strs_at hL (i := 1) (by omega)
         obtain ⟨X1, eX1⟩ : ∃ X, X = L.getD 1 ByteArray.empty := ⟨_, rfl⟩
         rw [<- eX1] at z1 x1 e1
         have E1 := Lib.hid e1
         have hx1 : 1 < L.length := by omega
         clear e1 eX1
         have x01 := HX2.out (by omega)
         rw [<- M.map_getD (p := M.exprT) (i := 0) (by omega), <- M.map_getD (p := M.exprT) (i := 1) (by omega), <- E0.out, <- E1.out, M.bs_len, M.bs_len] at x01
         simp only [Nat.add_zero] at z0
         clear hcc
         have SD := Lib.hid S1.out.drew
         obtain ⟨-, -, d0, d1, d2, d3⟩ := id SD.out
         have zd0 := ((Below.refl _ _).drew.cell (p := ⟨_, _, none⟩) (World.block_lt_of_cell? w1 _ z0)).trans z0
         have zd1 := ((Below.refl _ _).drew.cell (p := ⟨_, _, none⟩) (World.block_lt_of_cell? w1 _ z1)).trans z1
         have HL := Lib.hid hL
         have HST := Lib.hid hSt
         clear hb hO hL hSt hLl
         go_wp2_with fail
         try dsimp only [List.append]
         refine wp_region_lex (S := fun W' => W'.cell? ⟨g1, of1, none⟩ = some (.string X0) /\ W'.cell? ⟨g1, of1 + 1, none⟩ = some (.string X1)) (by kernel_rfl) (by kernel_rfl) (fun _ _ _ _ _ h => h) ?_ ?_
         ·exact ⟨zd0, zd1⟩
         repeat (first
          | (refine LexH.pass (by rfl) ?_; (try simp only [Act.put, List.setIfInBounds_toArray, List.set_cons_zero, List.set_cons_succ]))
          | (refine LexH.yield (v := ?_) (by rfl) ?_ ?_; rotate_left 1; (· intro w hSw; (try dsimp only at hSw); go_simp; (try rw [if_neg (by first | omega | (simp only [M.size_app]; omega))]); (try rw [if_pos (by omega)]); try with_reducible rfl); (try simp only [Act.put, List.setIfInBounds_toArray, List.set_cons_zero, List.set_cons_succ])))
         refine LexH.nil ?_
         have S2 := SD
         go_wp2_with fail
         go_ret
         exact ⟨⟨_, rfl, by rw [ER.out]; simp only [M.bs_append, E0.out, E1.out]; rfl⟩, S2.out.below⟩
        ·have gka : (ka == 19) = false := by rw [beq_eq_false_iff_ne]; exact c7
         have C7 := Lib.hid c7
         clear c7
         rw [if_neg C0.out, if_neg C1.out, if_neg C2.out, if_neg C3.out, if_neg C4.out, if_neg C5.out, if_neg C7.out] at er
         have ER := Lib.hid er
         clear er
         have hl1 : 1 < l.length := by have := C6.out; omega
         clear hS1 hS2 hkinds
         go_enter Tryz.func102, Tryz.ntmps102
         go_wp2_with fail
         (with_reducible refine (TXS.out _ S0.out.below).mono ?_)
         rintro e w1 ⟨⟨v1, L, rfl, hO, hL⟩, hb⟩
         have S1 := Lib.hid (S0.out.next hb)
         obtain ⟨-, -, y0, y1, y2, y3⟩ := id S1.out
         have hLl : L.length = l.length := by have := congrArg List.length hL; simpa using this
         have hSt := hO.strs (by omega)
         obtain ⟨-, A1, cap1, rfl, hc1⟩ := id hSt
         obtain ⟨qa0, qa1, qa2, qa3⟩ := bel4 S1.out.below al a0 a1 a2 a3
         have hc1' := hc1 (by omega)
         clear hc1
         obtain ⟨g1, of1, rfl, hcc⟩ := hc1'
         have z0 := hcc 0 (by omega)
         have x0 := HXW.out 0 (by omega)
         rw [<- M.map_getD (p := M.exprT) (by omega), <- M.strs_at hL (by omega), M.bs_len] at x0
         have e0 := M.strs_at hL (i := 0) (by omega)
         obtain ⟨X0, eX0⟩ : ∃ X, X = L.getD 0 ByteArray.empty := ⟨_, rfl⟩
         rw [<- eX0] at z0 x0 e0
         have E0 := Lib.hid e0
         have hx0 : 0 < L.length := by omega
         clear e0 eX0
         have z1 := hcc 1 (by omega)
         have x1 := HXW.out 1 (by omega)
         rw [<- M.map_getD (p := M.exprT) (by omega), <- M.strs_at hL (by omega), M.bs_len] at x1
         have e1 := M.strs_at hL (i := 1) (by omega)
         obtain ⟨X1, eX1⟩ : ∃ X, X = L.getD 1 ByteArray.empty := ⟨_, rfl⟩
         rw [<- eX1] at z1 x1 e1
         have E1 := Lib.hid e1
         have hx1 : 1 < L.length := by omega
         clear e1 eX1
         have x01 := HX2.out (by omega)
         rw [<- M.map_getD (p := M.exprT) (i := 0) (by omega), <- M.map_getD (p := M.exprT) (i := 1) (by omega), <- E0.out, <- E1.out, M.bs_len, M.bs_len] at x01
         simp only [Nat.add_zero] at z0
         clear hcc
         have SD := Lib.hid S1.out.drew
         obtain ⟨-, -, d0, d1, d2, d3⟩ := id SD.out
         have zd0 := ((Below.refl _ _).drew.cell (p := ⟨_, _, none⟩) (World.block_lt_of_cell? w1 _ z0)).trans z0
         have zd1 := ((Below.refl _ _).drew.cell (p := ⟨_, _, none⟩) (World.block_lt_of_cell? w1 _ z1)).trans z1
         have HL := Lib.hid hL
         have HST := Lib.hid hSt
         clear hb hO hL hSt hLl
         go_wp2_with fail
         try dsimp only [List.append]
         refine wp_region_lex (S := fun W' => W'.cell? ⟨g1, of1, none⟩ = some (.string X0) /\ W'.cell? ⟨g1, of1 + 1, none⟩ = some (.string X1)) (by kernel_rfl) (by kernel_rfl) (fun _ _ _ _ _ h => h) ?_ ?_
         ·exact ⟨zd0, zd1⟩
         repeat (first
          | (refine LexH.pass (by rfl) ?_; (try simp only [Act.put, List.setIfInBounds_toArray, List.set_cons_zero, List.set_cons_succ]))
          | (refine LexH.yield (v := ?_) (by rfl) ?_ ?_; rotate_left 1; (· intro w hSw; (try dsimp only at hSw); go_simp; (try rw [if_neg (by first | omega | (simp only [M.size_app]; omega))]); (try rw [if_pos (by omega)]); try with_reducible rfl); (try simp only [Act.put, List.setIfInBounds_toArray, List.set_cons_zero, List.set_cons_succ])))
         refine LexH.nil ?_
         have S2 := SD
         go_wp2_with fail
         go_ret
         exact ⟨⟨_, rfl, by rw [ER.out]; simp only [M.bs_append, E0.out, E1.out]; rfl⟩, S2.out.below⟩
       ·exact absurd (hS2 C0.out C1.out C2.out C3.out C4.out) c6
theorem rexprText_any : ∀ (f : Nat) (t : M.Tree), M.exprF f t = true -> M.count t <= 20000 -> M.weight t <= 4611686018427387904 -> FnS 102 M.exprT t
 | 0, t, h => by rw [M.exprF] at h; cases h
 | f + 1, t, h => fun h1 h2 => rexprText_step f (fun u hu h3 h4 => rexprText_any f u hu h3 h4) t h h1 h2
open Go.RowKit
namespace M
def argT (t : Tree) : List Nat := t.text ++ [58, 32] ++ typeT (t.kids.getD 0 Tree.no)
def deepT (l : List (List Nat)) : List (List Nat) := l.map ([32, 32] ++ ·)
def itemW (k : Int) (tx : List Nat) (n : Nat) (l : List Tree) (b : List (List (List Nat))) : List (List Nat) :=
 if k = 2 then [[105, 110, 32] ++ tx ++ [58, 32] ++ typeT (l.getD 0 Tree.no) ++ [32, 102, 114, 111, 109, 32] ++ digitsL n ++ [59]]
 else if k = 3 then [[108, 101, 116, 32] ++ tx ++ [32, 61, 32] ++ exprT (l.getD 0 Tree.no) ++ [59]]
 else if k = 4 then [tx ++ [32, 61, 32] ++ exprT (l.getD 0 Tree.no) ++ [59]]
 else if k = 5 then [tx ++ [91] ++ exprT (l.getD 0 Tree.no) ++ [93, 32, 61, 32] ++ exprT (l.getD 1 Tree.no) ++ [59]]
 else if k = 6 then [[105, 102, 32] ++ exprT (l.getD 0 Tree.no) ++ [32, 123]] ++ deepT (b.getD 1 []) ++ (if 0 < (l.getD 2 Tree.no).kids.length then [[125, 32, 101, 108, 115, 101, 32, 123]] ++ deepT (b.getD 2 []) else []) ++ [[125]]
 else if k = 7 then [[102, 111, 114, 32] ++ tx ++ [32, 61, 32] ++ exprT (l.getD 0 Tree.no) ++ [32, 116, 111, 32] ++ exprT (l.getD 1 Tree.no) ++ [32, 123]] ++ deepT (b.getD 2 []) ++ [[125]]
 else if k = 8 then [[111, 117, 116, 32] ++ exprT (l.getD 0 Tree.no) ++ [32, 116, 111, 32] ++ (if 1 < l.length then joinW [44, 32] ((l.drop 1).map fun t => digitsL t.num) else [97, 108, 108]) ++ [59]]
 else [[100, 101, 102, 32] ++ tx ++ [40] ++ joinW [44, 32] ((l.take (l.length - 2)).map argT) ++ [41, 32, 123]] ++ deepT (b.getD (l.length - 2) []) ++ [[32, 32, 114, 101, 116, 117, 114, 110, 32] ++ exprT (l.getD (l.length - 1) Tree.no) ++ [59]] ++ [[125]]
mutual
def itemT : Tree -> List (List Nat)
 | .node k tx n l => itemW k tx n l (blocksL l)
def blocksL : List Tree -> List (List (List Nat))
 | [] => []
 | t :: r => blockT t :: blocksL r
def blockT : Tree -> List (List Nat)
 | .node _ _ _ l => linesL l
def linesL : List Tree -> List (List Nat)
 | [] => []
 | t :: r => itemT t ++ linesL r
end
theorem blocksL_map : ∀ l : List Tree, blocksL l = l.map blockT
 | [] => by rw [blocksL]; rfl
 | t :: r => by rw [blocksL, blocksL_map r]; rfl
theorem itemT_eq (t : Tree) : itemT t = itemW t.kind t.text t.num t.kids (t.kids.map blockT) := by
 cases t with
 | node k tx n l => rw [itemT, blocksL_map]; rfl
theorem blockT_eq (t : Tree) : blockT t = linesL t.kids := by
 cases t with
 | node k tx n l => rw [blockT]; rfl
theorem linesL_snoc (t : Tree) : ∀ l : List Tree, linesL (l ++ [t]) = linesL l ++ itemT t
 | [] => by simp [linesL]
 | a :: r => by simp only [List.cons_append, linesL, linesL_snoc t r, List.append_assoc]
theorem linesL_take (l : List Tree) (k : Nat) (h : k < l.length) : linesL (l.take (k + 1)) = linesL (l.take k) ++ itemT (l.getD k Tree.no) := by
 rw [List.take_add_one, List.getD_eq_getElem?_getD, List.getElem?_eq_getElem h]
 exact linesL_snoc _ _
theorem linesL_take_len (l : List Tree) : ∀ k, (linesL (l.take k)).length <= (linesL l).length := by
 induction l with
 | nil => intro k; simp
 | cons a r ih =>
  intro k
  cases k with
  | zero => simp [linesL]
  | succ k => simp only [List.take_succ_cons, linesL, List.length_append]; have := ih k; omega
theorem deepT_len (l : List (List Nat)) : (deepT l).length = l.length := List.length_map _
end M
def ItemC (t : M.Tree) : Prop := ∀ (v : Value) (w : World), NodeV w v t -> Calls Tryz.prog 48 #[v] w fun e w' => (∃ v' L, e = .returned v' /\ OwnS w' w.heap.size v' L /\ L.map M.bs = M.itemT t) /\ Below w.heap.size w w'
theorem OwnS.mono {w : World} {base base' : Nat} {v : Value} {L : List ByteArray} (h : OwnS w base v L) (hb : base' <= base) : OwnS w base' v L := by
 obtain ⟨h1, h2⟩ := h
 refine ⟨h1, ?_⟩
 rcases h2 with h2 | ⟨g, cap, cur, hv, hg, hh, r⟩
 ·exact .inl h2
 ·exact .inr ⟨g, cap, cur, hv, Nat.le_trans hb hg, hh, r⟩
theorem rlines_any (l : List M.Tree) (hl : (M.linesL l).length <= 1000000) (hne : ∀ i, i < l.length -> M.itemT (l.getD i M.Tree.no) ≠ []) (hx : ∀ i, i < l.length -> ItemC (l.getD i M.Tree.no)) (v : Value) (w : World) (hv : KidsV w v l) : Calls Tryz.prog 35 #[v] w fun e w' => (∃ v' L, e = .returned v' /\ OwnS w' w.heap.size v' L /\ L.map M.bs = M.linesL l) /\ Below w.heap.size w w' := by
 have hud := hud9
 obtain ⟨A, cap, rfl, _⟩ := id hv
 obtain ⟨-, h1, h2, h3⟩ := hv.kid
 have HK := Lib.hid h3
 have HX := Lib.hid hx
 have HNE := Lib.hid hne
 have HLL := Lib.hid fun k => Nat.le_trans (M.linesL_take_len l k) hl
 have HB0 := Lib.hid (Below.refl w.heap.size w)
 obtain ⟨i0, hi0, hz0, hz1, hz2⟩ := infoStr2
 clear h3 hx hv hl hne
 go_enter Tryz.func35, Tryz.ntmps35
 go_wp2_with fail
 go_loopw [3, 8] (fun tl ti wr => ∃ (i : Nat) (L : List ByteArray), i <= l.length /\ ti = .int .i64 i /\ OwnS wr w.heap.size tl L /\ L.map M.bs = M.linesL (l.take i) /\ Below w.heap.size w wr) (fun _ ti _ => l.length - (intOf ti).toNat)
 case atStart => exact ⟨0, [], by omega, rfl, World.ownsRow_nil _ _ _ _, by simp [M.linesL], HB0.out⟩
 case round =>
  obtain ⟨k, L, hk, rfl, hO, hM, hB⟩ := hrel
  have HO := Lib.hid hO
  have HB := Lib.hid hB
  have HM := Lib.hid hM
  clear hO hB hM
  by_cases hlt : k < l.length
  ·obtain ⟨b, off, rfl, hbl, hcell⟩ := HK.out (by omega)
   obtain ⟨T2, A2, n3, c3, x0, x1, x2, x3, hn⟩ := hcell k hlt
   have p0 := (HB.out.cell (p := ⟨b, off + k * 4, none⟩) hbl).trans x0
   have p1 := (HB.out.cell (p := ⟨b, off + k * 4 + 1, none⟩) hbl).trans x1
   have p2 := (HB.out.cell (p := ⟨b, off + k * 4 + 2, none⟩) hbl).trans x2
   have p3 := (HB.out.cell (p := ⟨b, off + k * 4 + 3, none⟩) hbl).trans x3
   have hc := HX.out k hlt
   have HT := Lib.hid (M.linesL_take l k hlt)
   have hne := HNE.out k hlt
   have hll := HLL.out (k + 1)
   rw [HT.out, List.length_append, <- HM.out, List.length_map] at hll
   obtain ⟨u, eu⟩ : ∃ u, u = l.getD k M.Tree.no := ⟨_, rfl⟩
   rw [<- eu] at p0 p2 hn hc HT hne hll
   obtain ⟨K2, eK2⟩ : ∃ K, K = u.kind := ⟨_, rfl⟩
   obtain ⟨n2, en2⟩ : ∃ n, n = u.num := ⟨_, rfl⟩
   rw [<- eK2] at p0 hn
   rw [<- en2] at p2 hn
   have HN := Lib.hid hn
   have HNU := Lib.hid hne
   have HBX := Lib.hid fun o => HB.out.alloc HB.out.size o
   have CK := Lib.hid fun w' (hb : Below w.heap.size w w') => hc _ w' (HN.out.below hb)
   clear hcell x0 x1 x2 x3 eu eK2 en2 hn hc hne
   go_wp2_with fail
   (with_reducible refine (CK.out _ (HBX.out _)).mono ?_)
   rintro e w2 ⟨⟨v2, L2, rfl, hO2, hL2⟩, hb2⟩
   have HB2 := Lib.hid ((HBX.out _).trans (hb2.mono (HBX.out _).size))
   have HOO := Lib.hid (OwnS.below (HO.out.alloc _) hb2)
   have hlen : L2.length = (M.itemT u).length := by have := congrArg List.length hL2; simpa using this
   have hpos : 0 < L2.length := by rw [hlen]; exact List.length_pos_iff.2 HNU.out
   have hsum : L.length + L2.length <= 1000000 := by rw [hlen]; exact hll
   obtain ⟨-, A3, c3, rfl, hc3⟩ := hO2.strs (by omega)
   obtain ⟨g, of, rfl, hcc⟩ := hc3 hpos
   have HCC := Lib.hid hcc
   have HL2 := Lib.hid hL2
   clear hb2 hO2 hL2 hlen hll hc3 hcc
   go_wp2_with (at_builtin; refine wpList_append_own _ rfl _ _ 44 rfl w.heap.size 9 i0 (.string ⟨#[]⟩) 1 16 Tryz.underlying44 hi0 hz0 hz1 hz2 rfl (by decide) _ _ _ rfl HOO.out ⟨g, of, none⟩ L2.length c3 (L2.map Value.string) rfl ?d0 ?d1 ?d2 ?d3 ?d4 ?d5 ?_)
   case d0 => rw [List.length_map, Nat.mul_one]
   case d1 =>
    intro j u hu
    rw [Addr.add_lit]
    rw [List.getElem?_map] at hu
    obtain ⟨y, hy, rfl⟩ := Option.map_eq_some_iff.1 hu
    obtain ⟨hj, e⟩ := List.getElem?_eq_some_iff.1 hy
    have := HCC.out j hj
    rw [List.getD_eq_getElem?_getD, hy] at this
    exact this
   case d2 => intro u hu; obtain ⟨y, _, rfl⟩ := List.mem_map.1 hu; rfl
   case d3 => unfold maxLen; omega
   case d4 => omega
   case d5 => exact HB2.out.size
   intro v' w3 hown hgrow _
   have HB3 := Lib.hid (HB2.out.grown hgrow HB2.out.size (fun j e => by have := (HOO.out.lt j e).1; omega))
   have HO3 := Lib.hid (show OwnS w3 w.heap.size v' (L ++ L2) by
    unfold OwnS
    rw [List.length_append, List.map_append]; exact hown)
   clear hown hgrow
   go_wp2_with fail
   go_roundw
   case rel => exact ⟨k + 1, L ++ L2, by omega, by go_num, HO3.out, by rw [HT.out, List.map_append, HM.out, HL2.out], HB3.out⟩
   case measure => simp [intOf]; omega
  ·obtain rfl : k = l.length := by omega
   go_wp2_with fail
   go_ret
   have := HM.out
   rw [List.take_length] at this
   exact ⟨⟨_, L, rfl, HO.out, this⟩, HB.out⟩
open Go.RowKit
theorem OwnS.one {w : World} {T : ByteArray} {base : Nat} (hb : base <= w.heap.size) (t : TypeId) (ht : t = 9) : OwnS (w.alloc (.cells #[.string T] t)) base (.slice (some ⟨w.heap.size, 0, none⟩) 1 1) [T] := by
 subst ht
 exact ⟨rfl, .inr ⟨w.heap.size, 1, #[.string T], rfl, hb, heap_alloc_new w _, Nat.le_refl _, by unfold maxLen; omega, rfl, rfl⟩⟩
theorem rexpr9 {f : Nat} {u : M.Tree} (h : M.exprF f u = true) (hc : M.count u <= 20000) (hw : M.weight u <= 3000000000000000000) {v : Value} {w : World} (hv : NodeV w v u) : Calls Tryz.prog 102 #[v] w fun e w' => ∃ T : ByteArray, e = .returned (.string T) /\ M.bs T = M.exprT u /\ T.size <= 3000000000000000000 /\ Below w.heap.size w w' :=
 (rexprText_any f u h hc (by omega) v w hv).mono fun e w' ⟨⟨T, h1, h2⟩, h3⟩ => ⟨T, h1, h2, by have := M.exprT_weight f u h; rw [<- M.bs_len, h2]; omega, h3⟩
theorem rtype9 {u : M.Tree} (h : M.typeB u = true) {v : Value} {w : World} (hv : NodeV w v u) : Calls Tryz.prog 100 #[v] w fun e w' => ∃ T : ByteArray, e = .returned (.string T) /\ M.bs T = M.typeT u /\ T.size <= 100 /\ Below w.heap.size w w' := by
 have h2 := (of_decide_eq_true h).1.2.2.1
 obtain ⟨_, _, _, _, _, hk⟩ := id hv
 have hn : ∀ i, i < 2 -> (u.kids.getD i M.Tree.no).num < 18446744073709551616 := fun i hi => by
  have h3 := (of_decide_eq_true h).1.2.2.2
  have h4 := List.all_eq_true.1 h3 _ (kid_mem (l := u.kids) (i := i) (by omega))
  have := (of_decide_eq_true h4).2.2.1
  omega
 refine (rtypeText_any u h2 v w hv).mono fun e w' ⟨⟨T, h1, h2⟩, h3⟩ => ⟨T, h1, h2, ?_, h3⟩
 have d0 := M.digitsL_len20 (hn 0 (by omega))
 have d1 := M.digitsL_len20 (hn 1 (by omega))
 rw [<- M.bs_len, h2]
 unfold M.typeT
 split <;> split <;> (try split) <;> simp only [List.length_append, List.length_cons, List.length_nil] <;> omega

theorem ritem_2 (t : M.Tree) (f : Nat) (hkind : t.kind = 2) (hF : M.itemF (f + 1) t = true) (hcnt : M.count t <= 20000) (hwt : M.weight t <= 3000000000000000000) : ItemC t := by
 intro v w hv
 have hud := hud9
 rw [M.itemF, if_pos hkind] at hF
 have hF := of_decide_eq_true hF
 have hcn : ∀ i, i < t.kids.length -> M.count (t.kids.getD i M.Tree.no) <= 20000 := fun i hi => by have := M.count_kid (t := t) (kid_mem hi); omega
 have hwn : ∀ i, i < t.kids.length -> M.weight (t.kids.getD i M.Tree.no) <= 3000000000000000000 := fun i hi => by have := M.weight_kid (t := t) (kid_mem hi); omega
 obtain ⟨T, kv, rfl, hT, hok, hk⟩ := hv
 obtain ⟨r, er⟩ : ∃ r, r = M.itemT t := ⟨_, rfl⟩
 rw [<- er]
 rw [M.itemT_eq] at er
 unfold M.itemW at er
 rw [if_pos hkind] at er
 obtain ⟨K, eK⟩ : ∃ K, K = t.kind := ⟨_, rfl⟩
 obtain ⟨tx, ex⟩ : ∃ x, x = t.text := ⟨_, rfl⟩
 obtain ⟨n, en⟩ : ∃ n, n = t.num := ⟨_, rfl⟩
 obtain ⟨l, el⟩ : ∃ l, l = t.kids := ⟨_, rfl⟩
 try rw [<- eK] at er
 try rw [<- ex] at er
 try rw [<- en] at er
 try rw [<- el] at er
 rw [<- eK, <- en]
 rw [<- ex] at hT
 rw [<- el] at hk hF hcn hwn
 obtain ⟨A, cap, rfl, _⟩ := id hk
 have HTX := Lib.hid hT
 have hn := hok.2.1
 have hsz := hok.2.2
 rw [<- en] at hn
 have S0 := Lib.hid (NB.start w K T n (.slice A l.length cap))
 have hK : K = 2 := eK.trans hkind
 have gk2 : (K == 2) = true := by rw [beq_iff_eq]; omega
 have HKK := Lib.hid hk
 clear hT hok hk eK ex en el hK
 have hl : 0 < l.length := by have := hF.2.2.1; omega
 have hty := hF.2.2.2
 have DN := Lib.hid fun w' (_ : Below w.heap.size w w') => rdig9 n w' hn
 obtain ⟨ba, oa, Ta, Aa, ma, cca, hAa, al, a0, a1, a2, a3, av⟩ := HKK.out.at 0 (by omega)
 cases hAa
 obtain ⟨ua, eua⟩ : ∃ u, u = l.getD 0 M.Tree.no := ⟨_, rfl⟩
 rw [<- eua] at a0 a2 av er
 obtain ⟨ka, eka⟩ : ∃ k, k = ua.kind := ⟨_, rfl⟩
 obtain ⟨na, ena⟩ : ∃ k, k = ua.num := ⟨_, rfl⟩
 rw [<- eka] at a0 av
 rw [<- ena] at a2 av
 simp only [show 0 * 4 = 0 from rfl, Nat.add_zero] at a0 a1 a2 a3
 have hia : 0 < l.length := by omega
 have Va := Lib.hid av
 rw [<- eua] at hty
 have TYA := Lib.hid fun w' (hb : Below w.heap.size w w') => rtype9 hty (Va.out.below hb)
 clear hty
 clear av eua eka ena
 obtain ⟨qa0, qa1, qa2, qa3⟩ := bel4 S0.out.below al a0 a1 a2 a3
 have ER := Lib.hid er
 clear er hF hcn hwn hkind hcnt hwt
 have HSC := Lib.hid fun W' (h : NB w K T n (.slice (some ⟨ba, oa, none⟩) l.length cap) W') => (show NB w K T n (.slice (some ⟨ba, oa, none⟩) l.length cap) W' /\ W'.cell? ⟨w.heap.size, 0, none⟩ = some (.int .i64 K) /\ W'.cell? ⟨w.heap.size, 1, none⟩ = some (.string T) /\ W'.cell? ⟨w.heap.size, 2, none⟩ = some (.int .u64 (n : Nat)) /\ W'.cell? ⟨w.heap.size, 3, none⟩ = some (.slice (some ⟨ba, oa, none⟩) l.length cap) /\ W'.cell? ⟨ba, oa, none⟩ = some (.int .i64 ka) /\ W'.cell? ⟨ba, oa + 1, none⟩ = some (.string Ta) /\ W'.cell? ⟨ba, oa + 2, none⟩ = some (.int .u64 (na : Nat)) /\ W'.cell? ⟨ba, oa + 3, none⟩ = some (.slice Aa ma cca) from ⟨h, h.c0, h.c1, h.c2, h.c3, (h.below.cell (p := ⟨_, _, none⟩) al).trans a0, (h.below.cell (p := ⟨_, _, none⟩) al).trans a1, (h.below.cell (p := ⟨_, _, none⟩) al).trans a2, (h.below.cell (p := ⟨_, _, none⟩) al).trans a3⟩)
 go_enter Tryz.func48, Tryz.ntmps48
 go_wp2_with fail
 have D0 := Lib.hid S0.out.drew
 try dsimp only [List.append]
 refine wp_region_ord (S := fun W' => NB w K T n (.slice (some ⟨ba, oa, none⟩) l.length cap) W' /\ W'.cell? ⟨w.heap.size, 0, none⟩ = some (.int .i64 K) /\ W'.cell? ⟨w.heap.size, 1, none⟩ = some (.string T) /\ W'.cell? ⟨w.heap.size, 2, none⟩ = some (.int .u64 (n : Nat)) /\ W'.cell? ⟨w.heap.size, 3, none⟩ = some (.slice (some ⟨ba, oa, none⟩) l.length cap) /\ W'.cell? ⟨ba, oa, none⟩ = some (.int .i64 ka) /\ W'.cell? ⟨ba, oa + 1, none⟩ = some (.string Ta) /\ W'.cell? ⟨ba, oa + 2, none⟩ = some (.int .u64 (na : Nat)) /\ W'.cell? ⟨ba, oa + 3, none⟩ = some (.slice Aa ma cca)) [0, 1, 2, 3, 4, 5, 6, 10, 11, 7, 8, 9, 12, 13, 14, 15, 16] (by kernel_rfl) (by kernel_rfl) (by kernel_rfl) (fun _ _ _ _ _ h => h) ?_ ?_
 ·exact HSC.out _ D0.out
 repeat (first
  | (refine OrdH.pass (by rfl) (by rfl) ?_; (try simp only [Act.put, List.setIfInBounds_toArray, List.set_cons_zero, List.set_cons_succ]))
  | (refine OrdH.yield (v := ?_) (by rfl) (by rfl) ?_ ?_; rotate_left 1; (· intro w hSw; (try dsimp only at hSw); go_simp; (try rw [if_neg (by first | omega | (simp only [M.size_app]; omega))]); (try rw [if_pos (by omega)]); try with_reducible rfl); (try simp only [Act.put, List.setIfInBounds_toArray, List.set_cons_zero, List.set_cons_succ]))
  | (refine OrdH.alone (by rfl) (by rfl) (by kernel_rfl) (fun K hKK => ?_); go_simp; (first | (go_at_call 101; (with_reducible refine (DN.out _ D1.out.below).mono ?_); rintro e w2 ⟨Xn, rfl, hX, hzn, hb⟩; have D2 := Lib.hid (D1.out.next hb); have En := Lib.hid hX; clear hb hX) | (go_at_call 100; (with_reducible refine (TYA.out _ D0.out.below).mono ?_); rintro e w1 ⟨Xa, rfl, hX, hza, hb⟩; have D1 := Lib.hid (D0.out.next hb); have Ea := Lib.hid hX; clear hb hX)); go_wp2_with fail; refine hKK.out _ _ ?_ (fun hHeld => ?_); (· (first | exact HSC.out _ D2.out | exact HSC.out _ D1.out | exact HSC.out _ D0.out)); clear hKK K hHeld; (try simp only [Act.put, List.setIfInBounds_toArray, List.set_cons_zero, List.set_cons_succ]))
  | (refine OrdH.alone (by rfl) (by rfl) (by kernel_rfl) (fun K hKK => ?_); go_simp; (try go_wp2_with fail); refine hKK.out _ _ ?_ (fun hHeld => ?_); (· exact HSC.out _ (D2.out.next ((Below.refl _ _).alloc (Nat.le_refl _) _))); clear hKK K hHeld; (try simp only [Act.put, List.setIfInBounds_toArray, List.set_cons_zero, List.set_cons_succ])))
 refine OrdH.nil ?_
 go_wp2_with fail
 go_ret
 refine ⟨⟨_, [_], rfl, OwnS.one ?_ _ rfl, ?_⟩, ?_⟩
 ·exact D2.out.below.size
 ·rw [ER.out]; simp only [List.map_cons, List.map_nil, M.bs_append, HTX.out, Ea.out, En.out]; rfl
 ·exact D2.out.below.alloc D2.out.below.size _

theorem ritem_3 (t : M.Tree) (f : Nat) (hkind : t.kind = 3) (hF : M.itemF (f + 1) t = true) (hcnt : M.count t <= 20000) (hwt : M.weight t <= 3000000000000000000) : ItemC t := by
 intro v w hv
 have hud := hud9
 rw [M.itemF, if_neg (show ¬ t.kind = 2 by omega), if_pos hkind] at hF
 have hF := of_decide_eq_true hF
 have hcn : ∀ i, i < t.kids.length -> M.count (t.kids.getD i M.Tree.no) <= 20000 := fun i hi => by have := M.count_kid (t := t) (kid_mem hi); omega
 have hwn : ∀ i, i < t.kids.length -> M.weight (t.kids.getD i M.Tree.no) <= 3000000000000000000 := fun i hi => by have := M.weight_kid (t := t) (kid_mem hi); omega
 obtain ⟨T, kv, rfl, hT, hok, hk⟩ := hv
 obtain ⟨r, er⟩ : ∃ r, r = M.itemT t := ⟨_, rfl⟩
 rw [<- er]
 rw [M.itemT_eq] at er
 unfold M.itemW at er
 rw [if_neg (show ¬ t.kind = 2 by omega), if_pos hkind] at er
 obtain ⟨K, eK⟩ : ∃ K, K = t.kind := ⟨_, rfl⟩
 obtain ⟨tx, ex⟩ : ∃ x, x = t.text := ⟨_, rfl⟩
 obtain ⟨n, en⟩ : ∃ n, n = t.num := ⟨_, rfl⟩
 obtain ⟨l, el⟩ : ∃ l, l = t.kids := ⟨_, rfl⟩
 try rw [<- eK] at er
 try rw [<- ex] at er
 try rw [<- en] at er
 try rw [<- el] at er
 rw [<- eK, <- en]
 rw [<- ex] at hT
 rw [<- el] at hk hF hcn hwn
 obtain ⟨A, cap, rfl, _⟩ := id hk
 have HTX := Lib.hid hT
 have hn := hok.2.1
 have hsz := hok.2.2
 rw [<- en] at hn
 have S0 := Lib.hid (NB.start w K T n (.slice A l.length cap))
 have hK : K = 3 := eK.trans hkind
 have gk2 : (K == 2) = false := by rw [beq_eq_false_iff_ne]; omega
 have gk3 : (K == 3) = true := by rw [beq_iff_eq]; omega
 have HKK := Lib.hid hk
 clear hT hok hk eK ex en el hK
 have hl : 0 < l.length := by have := hF.2.2.1; omega
 have hea := hF.2.2.2
 obtain ⟨ba, oa, Ta, Aa, ma, cca, hAa, al, a0, a1, a2, a3, av⟩ := HKK.out.at 0 (by omega)
 cases hAa
 obtain ⟨ua, eua⟩ : ∃ u, u = l.getD 0 M.Tree.no := ⟨_, rfl⟩
 rw [<- eua] at a0 a2 av er
 obtain ⟨ka, eka⟩ : ∃ k, k = ua.kind := ⟨_, rfl⟩
 obtain ⟨na, ena⟩ : ∃ k, k = ua.num := ⟨_, rfl⟩
 rw [<- eka] at a0 av
 rw [<- ena] at a2 av
 simp only [show 0 * 4 = 0 from rfl, Nat.add_zero] at a0 a1 a2 a3
 have hia : 0 < l.length := by omega
 have Va := Lib.hid av
 have hca := hcn 0 (by omega)
 have hwa := hwn 0 (by omega)
 rw [<- eua] at hca hwa hea
 have EXA := Lib.hid fun w' (hb : Below w.heap.size w w') => rexpr9 hea hca hwa (Va.out.below hb)
 clear hca hwa hea
 clear av eua eka ena
 obtain ⟨qa0, qa1, qa2, qa3⟩ := bel4 S0.out.below al a0 a1 a2 a3
 have ER := Lib.hid er
 clear er hF hcn hwn hkind hcnt hwt
 have HSC := Lib.hid fun W' (h : NB w K T n (.slice (some ⟨ba, oa, none⟩) l.length cap) W') => (show NB w K T n (.slice (some ⟨ba, oa, none⟩) l.length cap) W' /\ W'.cell? ⟨w.heap.size, 0, none⟩ = some (.int .i64 K) /\ W'.cell? ⟨w.heap.size, 1, none⟩ = some (.string T) /\ W'.cell? ⟨w.heap.size, 2, none⟩ = some (.int .u64 (n : Nat)) /\ W'.cell? ⟨w.heap.size, 3, none⟩ = some (.slice (some ⟨ba, oa, none⟩) l.length cap) /\ W'.cell? ⟨ba, oa, none⟩ = some (.int .i64 ka) /\ W'.cell? ⟨ba, oa + 1, none⟩ = some (.string Ta) /\ W'.cell? ⟨ba, oa + 2, none⟩ = some (.int .u64 (na : Nat)) /\ W'.cell? ⟨ba, oa + 3, none⟩ = some (.slice Aa ma cca) from ⟨h, h.c0, h.c1, h.c2, h.c3, (h.below.cell (p := ⟨_, _, none⟩) al).trans a0, (h.below.cell (p := ⟨_, _, none⟩) al).trans a1, (h.below.cell (p := ⟨_, _, none⟩) al).trans a2, (h.below.cell (p := ⟨_, _, none⟩) al).trans a3⟩)
 go_enter Tryz.func48, Tryz.ntmps48
 go_wp2_with fail
 have D0 := Lib.hid S0.out.drew
 try dsimp only [List.append]
 refine wp_region_ord (S := fun W' => NB w K T n (.slice (some ⟨ba, oa, none⟩) l.length cap) W' /\ W'.cell? ⟨w.heap.size, 0, none⟩ = some (.int .i64 K) /\ W'.cell? ⟨w.heap.size, 1, none⟩ = some (.string T) /\ W'.cell? ⟨w.heap.size, 2, none⟩ = some (.int .u64 (n : Nat)) /\ W'.cell? ⟨w.heap.size, 3, none⟩ = some (.slice (some ⟨ba, oa, none⟩) l.length cap) /\ W'.cell? ⟨ba, oa, none⟩ = some (.int .i64 ka) /\ W'.cell? ⟨ba, oa + 1, none⟩ = some (.string Ta) /\ W'.cell? ⟨ba, oa + 2, none⟩ = some (.int .u64 (na : Nat)) /\ W'.cell? ⟨ba, oa + 3, none⟩ = some (.slice Aa ma cca)) [0, 1, 2, 3, 4, 5, 6, 7, 8, 9, 10, 11] (by kernel_rfl) (by kernel_rfl) (by kernel_rfl) (fun _ _ _ _ _ h => h) ?_ ?_
 ·exact HSC.out _ D0.out
 repeat (first
  | (refine OrdH.pass (by rfl) (by rfl) ?_; (try simp only [Act.put, List.setIfInBounds_toArray, List.set_cons_zero, List.set_cons_succ]))
  | (refine OrdH.yield (v := ?_) (by rfl) (by rfl) ?_ ?_; rotate_left 1; (· intro w hSw; (try dsimp only at hSw); go_simp; (try rw [if_neg (by first | omega | (simp only [M.size_app]; omega))]); (try rw [if_pos (by omega)]); try with_reducible rfl); (try simp only [Act.put, List.setIfInBounds_toArray, List.set_cons_zero, List.set_cons_succ]))
  | (refine OrdH.alone (by rfl) (by rfl) (by kernel_rfl) (fun K hKK => ?_); go_simp; (first | (go_at_call 102; (with_reducible refine (EXA.out _ D0.out.below).mono ?_); rintro e w1 ⟨Xa, rfl, hX, hza, hb⟩; have D1 := Lib.hid (D0.out.next hb); have Ea := Lib.hid hX; clear hb hX)); go_wp2_with fail; refine hKK.out _ _ ?_ (fun hHeld => ?_); (· (first | exact HSC.out _ D1.out | exact HSC.out _ D0.out)); clear hKK K hHeld; (try simp only [Act.put, List.setIfInBounds_toArray, List.set_cons_zero, List.set_cons_succ]))
  | (refine OrdH.alone (by rfl) (by rfl) (by kernel_rfl) (fun K hKK => ?_); go_simp; (try go_wp2_with fail); refine hKK.out _ _ ?_ (fun hHeld => ?_); (· exact HSC.out _ (D1.out.next ((Below.refl _ _).alloc (Nat.le_refl _) _))); clear hKK K hHeld; (try simp only [Act.put, List.setIfInBounds_toArray, List.set_cons_zero, List.set_cons_succ])))
 refine OrdH.nil ?_
 go_wp2_with fail
 go_ret
 refine ⟨⟨_, [_], rfl, OwnS.one ?_ _ rfl, ?_⟩, ?_⟩
 ·exact D1.out.below.size
 ·rw [ER.out]; simp only [List.map_cons, List.map_nil, M.bs_append, HTX.out, Ea.out]; rfl
 ·exact D1.out.below.alloc D1.out.below.size _

theorem ritem_4 (t : M.Tree) (f : Nat) (hkind : t.kind = 4) (hF : M.itemF (f + 1) t = true) (hcnt : M.count t <= 20000) (hwt : M.weight t <= 3000000000000000000) : ItemC t := by
 intro v w hv
 have hud := hud9
 rw [M.itemF, if_neg (show ¬ t.kind = 2 by omega), if_neg (show ¬ t.kind = 3 by omega), if_pos hkind] at hF
 have hF := of_decide_eq_true hF
 have hcn : ∀ i, i < t.kids.length -> M.count (t.kids.getD i M.Tree.no) <= 20000 := fun i hi => by have := M.count_kid (t := t) (kid_mem hi); omega
 have hwn : ∀ i, i < t.kids.length -> M.weight (t.kids.getD i M.Tree.no) <= 3000000000000000000 := fun i hi => by have := M.weight_kid (t := t) (kid_mem hi); omega
 obtain ⟨T, kv, rfl, hT, hok, hk⟩ := hv
 obtain ⟨r, er⟩ : ∃ r, r = M.itemT t := ⟨_, rfl⟩
 rw [<- er]
 rw [M.itemT_eq] at er
 unfold M.itemW at er
 rw [if_neg (show ¬ t.kind = 2 by omega), if_neg (show ¬ t.kind = 3 by omega), if_pos hkind] at er
 obtain ⟨K, eK⟩ : ∃ K, K = t.kind := ⟨_, rfl⟩
 obtain ⟨tx, ex⟩ : ∃ x, x = t.text := ⟨_, rfl⟩
 obtain ⟨n, en⟩ : ∃ n, n = t.num := ⟨_, rfl⟩
 obtain ⟨l, el⟩ : ∃ l, l = t.kids := ⟨_, rfl⟩
 try rw [<- eK] at er
 try rw [<- ex] at er
 try rw [<- en] at er
 try rw [<- el] at er
 rw [<- eK, <- en]
 rw [<- ex] at hT
 rw [<- el] at hk hF hcn hwn
 obtain ⟨A, cap, rfl, _⟩ := id hk
 have HTX := Lib.hid hT
 have hn := hok.2.1
 have hsz := hok.2.2
 rw [<- en] at hn
 have S0 := Lib.hid (NB.start w K T n (.slice A l.length cap))
 have hK : K = 4 := eK.trans hkind
 have gk2 : (K == 2) = false := by rw [beq_eq_false_iff_ne]; omega
 have gk3 : (K == 3) = false := by rw [beq_eq_false_iff_ne]; omega
 have gk4 : (K == 4) = true := by rw [beq_iff_eq]; omega
 have HKK := Lib.hid hk
 clear hT hok hk eK ex en el hK
 have hl : 0 < l.length := by have := hF.2.2.1; omega
 have hea := hF.2.2.2
 obtain ⟨ba, oa, Ta, Aa, ma, cca, hAa, al, a0, a1, a2, a3, av⟩ := HKK.out.at 0 (by omega)
 cases hAa
 obtain ⟨ua, eua⟩ : ∃ u, u = l.getD 0 M.Tree.no := ⟨_, rfl⟩
 rw [<- eua] at a0 a2 av er
 obtain ⟨ka, eka⟩ : ∃ k, k = ua.kind := ⟨_, rfl⟩
 obtain ⟨na, ena⟩ : ∃ k, k = ua.num := ⟨_, rfl⟩
 rw [<- eka] at a0 av
 rw [<- ena] at a2 av
 simp only [show 0 * 4 = 0 from rfl, Nat.add_zero] at a0 a1 a2 a3
 have hia : 0 < l.length := by omega
 have Va := Lib.hid av
 have hca := hcn 0 (by omega)
 have hwa := hwn 0 (by omega)
 rw [<- eua] at hca hwa hea
 have EXA := Lib.hid fun w' (hb : Below w.heap.size w w') => rexpr9 hea hca hwa (Va.out.below hb)
 clear hca hwa hea
 clear av eua eka ena
 obtain ⟨qa0, qa1, qa2, qa3⟩ := bel4 S0.out.below al a0 a1 a2 a3
 have ER := Lib.hid er
 clear er hF hcn hwn hkind hcnt hwt
 have HSC := Lib.hid fun W' (h : NB w K T n (.slice (some ⟨ba, oa, none⟩) l.length cap) W') => (show NB w K T n (.slice (some ⟨ba, oa, none⟩) l.length cap) W' /\ W'.cell? ⟨w.heap.size, 0, none⟩ = some (.int .i64 K) /\ W'.cell? ⟨w.heap.size, 1, none⟩ = some (.string T) /\ W'.cell? ⟨w.heap.size, 2, none⟩ = some (.int .u64 (n : Nat)) /\ W'.cell? ⟨w.heap.size, 3, none⟩ = some (.slice (some ⟨ba, oa, none⟩) l.length cap) /\ W'.cell? ⟨ba, oa, none⟩ = some (.int .i64 ka) /\ W'.cell? ⟨ba, oa + 1, none⟩ = some (.string Ta) /\ W'.cell? ⟨ba, oa + 2, none⟩ = some (.int .u64 (na : Nat)) /\ W'.cell? ⟨ba, oa + 3, none⟩ = some (.slice Aa ma cca) from ⟨h, h.c0, h.c1, h.c2, h.c3, (h.below.cell (p := ⟨_, _, none⟩) al).trans a0, (h.below.cell (p := ⟨_, _, none⟩) al).trans a1, (h.below.cell (p := ⟨_, _, none⟩) al).trans a2, (h.below.cell (p := ⟨_, _, none⟩) al).trans a3⟩)
 go_enter Tryz.func48, Tryz.ntmps48
 go_wp2_with fail
 have D0 := Lib.hid S0.out.drew
 try dsimp only [List.append]
 refine wp_region_ord (S := fun W' => NB w K T n (.slice (some ⟨ba, oa, none⟩) l.length cap) W' /\ W'.cell? ⟨w.heap.size, 0, none⟩ = some (.int .i64 K) /\ W'.cell? ⟨w.heap.size, 1, none⟩ = some (.string T) /\ W'.cell? ⟨w.heap.size, 2, none⟩ = some (.int .u64 (n : Nat)) /\ W'.cell? ⟨w.heap.size, 3, none⟩ = some (.slice (some ⟨ba, oa, none⟩) l.length cap) /\ W'.cell? ⟨ba, oa, none⟩ = some (.int .i64 ka) /\ W'.cell? ⟨ba, oa + 1, none⟩ = some (.string Ta) /\ W'.cell? ⟨ba, oa + 2, none⟩ = some (.int .u64 (na : Nat)) /\ W'.cell? ⟨ba, oa + 3, none⟩ = some (.slice Aa ma cca)) [0, 1, 2, 3, 4, 5, 6, 7, 8, 9, 10] (by kernel_rfl) (by kernel_rfl) (by kernel_rfl) (fun _ _ _ _ _ h => h) ?_ ?_
 ·exact HSC.out _ D0.out
 repeat (first
  | (refine OrdH.pass (by rfl) (by rfl) ?_; (try simp only [Act.put, List.setIfInBounds_toArray, List.set_cons_zero, List.set_cons_succ]))
  | (refine OrdH.yield (v := ?_) (by rfl) (by rfl) ?_ ?_; rotate_left 1; (· intro w hSw; (try dsimp only at hSw); go_simp; (try rw [if_neg (by first | omega | (simp only [M.size_app]; omega))]); (try rw [if_pos (by omega)]); try with_reducible rfl); (try simp only [Act.put, List.setIfInBounds_toArray, List.set_cons_zero, List.set_cons_succ]))
  | (refine OrdH.alone (by rfl) (by rfl) (by kernel_rfl) (fun K hKK => ?_); go_simp; (first | (go_at_call 102; (with_reducible refine (EXA.out _ D0.out.below).mono ?_); rintro e w1 ⟨Xa, rfl, hX, hza, hb⟩; have D1 := Lib.hid (D0.out.next hb); have Ea := Lib.hid hX; clear hb hX)); go_wp2_with fail; refine hKK.out _ _ ?_ (fun hHeld => ?_); (· (first | exact HSC.out _ D1.out | exact HSC.out _ D0.out)); clear hKK K hHeld; (try simp only [Act.put, List.setIfInBounds_toArray, List.set_cons_zero, List.set_cons_succ]))
  | (refine OrdH.alone (by rfl) (by rfl) (by kernel_rfl) (fun K hKK => ?_); go_simp; (try go_wp2_with fail); refine hKK.out _ _ ?_ (fun hHeld => ?_); (· exact HSC.out _ (D1.out.next ((Below.refl _ _).alloc (Nat.le_refl _) _))); clear hKK K hHeld; (try simp only [Act.put, List.setIfInBounds_toArray, List.set_cons_zero, List.set_cons_succ])))
 refine OrdH.nil ?_
 go_wp2_with fail
 go_ret
 refine ⟨⟨_, [_], rfl, OwnS.one ?_ _ rfl, ?_⟩, ?_⟩
 ·exact D1.out.below.size
 ·rw [ER.out]; simp only [List.map_cons, List.map_nil, M.bs_append, HTX.out, Ea.out]; rfl
 ·exact D1.out.below.alloc D1.out.below.size _

theorem ritem_5 (t : M.Tree) (f : Nat) (hkind : t.kind = 5) (hF : M.itemF (f + 1) t = true) (hcnt : M.count t <= 20000) (hwt : M.weight t <= 3000000000000000000) : ItemC t := by
 intro v w hv
 have hud := hud9
 rw [M.itemF, if_neg (show ¬ t.kind = 2 by omega), if_neg (show ¬ t.kind = 3 by omega), if_neg (show ¬ t.kind = 4 by omega), if_pos hkind] at hF
 have hF := of_decide_eq_true hF
 have hcn : ∀ i, i < t.kids.length -> M.count (t.kids.getD i M.Tree.no) <= 20000 := fun i hi => by have := M.count_kid (t := t) (kid_mem hi); omega
 have hwn : ∀ i, i < t.kids.length -> M.weight (t.kids.getD i M.Tree.no) <= 3000000000000000000 := fun i hi => by have := M.weight_kid (t := t) (kid_mem hi); omega
 obtain ⟨T, kv, rfl, hT, hok, hk⟩ := hv
 obtain ⟨r, er⟩ : ∃ r, r = M.itemT t := ⟨_, rfl⟩
 rw [<- er]
 rw [M.itemT_eq] at er
 unfold M.itemW at er
 rw [if_neg (show ¬ t.kind = 2 by omega), if_neg (show ¬ t.kind = 3 by omega), if_neg (show ¬ t.kind = 4 by omega), if_pos hkind] at er
 obtain ⟨K, eK⟩ : ∃ K, K = t.kind := ⟨_, rfl⟩
 obtain ⟨tx, ex⟩ : ∃ x, x = t.text := ⟨_, rfl⟩
 obtain ⟨n, en⟩ : ∃ n, n = t.num := ⟨_, rfl⟩
 obtain ⟨l, el⟩ : ∃ l, l = t.kids := ⟨_, rfl⟩
 try rw [<- eK] at er
 try rw [<- ex] at er
 try rw [<- en] at er
 try rw [<- el] at er
 rw [<- eK, <- en]
 rw [<- ex] at hT
 rw [<- el] at hk hF hcn hwn
 obtain ⟨A, cap, rfl, _⟩ := id hk
 have HTX := Lib.hid hT
 have hn := hok.2.1
 have hsz := hok.2.2
 rw [<- en] at hn
 have S0 := Lib.hid (NB.start w K T n (.slice A l.length cap))
 have hK : K = 5 := eK.trans hkind
 have gk2 : (K == 2) = false := by rw [beq_eq_false_iff_ne]; omega
 have gk3 : (K == 3) = false := by rw [beq_eq_false_iff_ne]; omega
 have gk4 : (K == 4) = false := by rw [beq_eq_false_iff_ne]; omega
 have gk5 : (K == 5) = true := by rw [beq_iff_eq]; omega
 have HKK := Lib.hid hk
 clear hT hok hk eK ex en el hK
 have hl : 1 < l.length := by have := hF.2.2.1; omega
 have hea := List.all_eq_true.1 hF.2.2.2 _ (kid_mem (l := l) (i := 0) (by omega))
 have heb := List.all_eq_true.1 hF.2.2.2 _ (kid_mem (l := l) (i := 1) (by omega))
 obtain ⟨ba, oa, Ta, Aa, ma, cca, hAa, al, a0, a1, a2, a3, av⟩ := HKK.out.at 0 (by omega)
 cases hAa
 obtain ⟨ua, eua⟩ : ∃ u, u = l.getD 0 M.Tree.no := ⟨_, rfl⟩
 rw [<- eua] at a0 a2 av er
 obtain ⟨ka, eka⟩ : ∃ k, k = ua.kind := ⟨_, rfl⟩
 obtain ⟨na, ena⟩ : ∃ k, k = ua.num := ⟨_, rfl⟩
 rw [<- eka] at a0 av
 rw [<- ena] at a2 av
 simp only [show 0 * 4 = 0 from rfl, Nat.add_zero] at a0 a1 a2 a3
 have hia : 0 < l.length := by omega
 have Va := Lib.hid av
 have hca := hcn 0 (by omega)
 have hwa := hwn 0 (by omega)
 rw [<- eua] at hca hwa hea
 have EXA := Lib.hid fun w' (hb : Below w.heap.size w w') => rexpr9 hea hca hwa (Va.out.below hb)
 clear hca hwa hea
 clear av eua eka ena
 obtain ⟨qa0, qa1, qa2, qa3⟩ := bel4 S0.out.below al a0 a1 a2 a3
 obtain ⟨bb, ob, Tb, Ab, mb, ccb, hAb, bl, b0, b1, b2, b3, bv⟩ := HKK.out.at 1 (by omega)
 cases hAb
 obtain ⟨ub, eub⟩ : ∃ u, u = l.getD 1 M.Tree.no := ⟨_, rfl⟩
 rw [<- eub] at b0 b2 bv er
 obtain ⟨kb, ekb⟩ : ∃ k, k = ub.kind := ⟨_, rfl⟩
 obtain ⟨nb, enb⟩ : ∃ k, k = ub.num := ⟨_, rfl⟩
 rw [<- ekb] at b0 bv
 rw [<- enb] at b2 bv
 simp only [show 1 * 4 = 4 from rfl] at b0 b1 b2 b3
 have hib : 1 < l.length := by omega
 have Vb := Lib.hid bv
 have hcb := hcn 1 (by omega)
 have hwb := hwn 1 (by omega)
 rw [<- eub] at hcb hwb heb
 have EXB := Lib.hid fun w' (hb : Below w.heap.size w w') => rexpr9 heb hcb hwb (Vb.out.below hb)
 clear hcb hwb heb
 clear bv eub ekb enb
 obtain ⟨qb0, qb1, qb2, qb3⟩ := bel4 S0.out.below bl b0 b1 b2 b3
 have ER := Lib.hid er
 clear er hF hcn hwn hkind hcnt hwt
 have HSC := Lib.hid fun W' (h : NB w K T n (.slice (some ⟨ba, oa, none⟩) l.length cap) W') => (show NB w K T n (.slice (some ⟨ba, oa, none⟩) l.length cap) W' /\ W'.cell? ⟨w.heap.size, 0, none⟩ = some (.int .i64 K) /\ W'.cell? ⟨w.heap.size, 1, none⟩ = some (.string T) /\ W'.cell? ⟨w.heap.size, 2, none⟩ = some (.int .u64 (n : Nat)) /\ W'.cell? ⟨w.heap.size, 3, none⟩ = some (.slice (some ⟨ba, oa, none⟩) l.length cap) /\ W'.cell? ⟨ba, oa, none⟩ = some (.int .i64 ka) /\ W'.cell? ⟨ba, oa + 1, none⟩ = some (.string Ta) /\ W'.cell? ⟨ba, oa + 2, none⟩ = some (.int .u64 (na : Nat)) /\ W'.cell? ⟨ba, oa + 3, none⟩ = some (.slice Aa ma cca) /\ W'.cell? ⟨ba, oa + 4, none⟩ = some (.int .i64 kb) /\ W'.cell? ⟨ba, oa + 4 + 1, none⟩ = some (.string Tb) /\ W'.cell? ⟨ba, oa + 4 + 2, none⟩ = some (.int .u64 (nb : Nat)) /\ W'.cell? ⟨ba, oa + 4 + 3, none⟩ = some (.slice Ab mb ccb) from ⟨h, h.c0, h.c1, h.c2, h.c3, (h.below.cell (p := ⟨_, _, none⟩) al).trans a0, (h.below.cell (p := ⟨_, _, none⟩) al).trans a1, (h.below.cell (p := ⟨_, _, none⟩) al).trans a2, (h.below.cell (p := ⟨_, _, none⟩) al).trans a3, (h.below.cell (p := ⟨_, _, none⟩) bl).trans b0, (h.below.cell (p := ⟨_, _, none⟩) bl).trans b1, (h.below.cell (p := ⟨_, _, none⟩) bl).trans b2, (h.below.cell (p := ⟨_, _, none⟩) bl).trans b3⟩)
 go_enter Tryz.func48, Tryz.ntmps48
 go_wp2_with fail
 have D0 := Lib.hid S0.out.drew
 try dsimp only [List.append]
 refine wp_region_ord (S := fun W' => NB w K T n (.slice (some ⟨ba, oa, none⟩) l.length cap) W' /\ W'.cell? ⟨w.heap.size, 0, none⟩ = some (.int .i64 K) /\ W'.cell? ⟨w.heap.size, 1, none⟩ = some (.string T) /\ W'.cell? ⟨w.heap.size, 2, none⟩ = some (.int .u64 (n : Nat)) /\ W'.cell? ⟨w.heap.size, 3, none⟩ = some (.slice (some ⟨ba, oa, none⟩) l.length cap) /\ W'.cell? ⟨ba, oa, none⟩ = some (.int .i64 ka) /\ W'.cell? ⟨ba, oa + 1, none⟩ = some (.string Ta) /\ W'.cell? ⟨ba, oa + 2, none⟩ = some (.int .u64 (na : Nat)) /\ W'.cell? ⟨ba, oa + 3, none⟩ = some (.slice Aa ma cca) /\ W'.cell? ⟨ba, oa + 4, none⟩ = some (.int .i64 kb) /\ W'.cell? ⟨ba, oa + 4 + 1, none⟩ = some (.string Tb) /\ W'.cell? ⟨ba, oa + 4 + 2, none⟩ = some (.int .u64 (nb : Nat)) /\ W'.cell? ⟨ba, oa + 4 + 3, none⟩ = some (.slice Ab mb ccb)) [0, 1, 2, 3, 4, 5, 9, 10, 11, 6, 7, 8, 12, 13, 14, 15, 16] (by kernel_rfl) (by kernel_rfl) (by kernel_rfl) (fun _ _ _ _ _ h => h) ?_ ?_
 ·exact HSC.out _ D0.out
 repeat (first
  | (refine OrdH.pass (by rfl) (by rfl) ?_; (try simp only [Act.put, List.setIfInBounds_toArray, List.set_cons_zero, List.set_cons_succ]))
  | (refine OrdH.yield (v := ?_) (by rfl) (by rfl) ?_ ?_; rotate_left 1; (· intro w hSw; (try dsimp only at hSw); go_simp; (try rw [if_neg (by first | omega | (simp only [M.size_app]; omega))]); (try rw [if_pos (by omega)]); try with_reducible rfl); (try simp only [Act.put, List.setIfInBounds_toArray, List.set_cons_zero, List.set_cons_succ]))
  | (refine OrdH.alone (by rfl) (by rfl) (by kernel_rfl) (fun K hKK => ?_); go_simp; (first | (go_at_call 102; (with_reducible refine (EXB.out _ D1.out.below).mono ?_); rintro e w2 ⟨Xb, rfl, hX, hzb, hb⟩; have D2 := Lib.hid (D1.out.next hb); have Eb := Lib.hid hX; clear hb hX) | (go_at_call 102; (with_reducible refine (EXA.out _ D0.out.below).mono ?_); rintro e w1 ⟨Xa, rfl, hX, hza, hb⟩; have D1 := Lib.hid (D0.out.next hb); have Ea := Lib.hid hX; clear hb hX)); go_wp2_with fail; refine hKK.out _ _ ?_ (fun hHeld => ?_); (· (first | exact HSC.out _ D2.out | exact HSC.out _ D1.out | exact HSC.out _ D0.out)); clear hKK K hHeld; (try simp only [Act.put, List.setIfInBounds_toArray, List.set_cons_zero, List.set_cons_succ]))
  | (refine OrdH.alone (by rfl) (by rfl) (by kernel_rfl) (fun K hKK => ?_); go_simp; (try go_wp2_with fail); refine hKK.out _ _ ?_ (fun hHeld => ?_); (· exact HSC.out _ (D2.out.next ((Below.refl _ _).alloc (Nat.le_refl _) _))); clear hKK K hHeld; (try simp only [Act.put, List.setIfInBounds_toArray, List.set_cons_zero, List.set_cons_succ])))
 refine OrdH.nil ?_
 go_wp2_with fail
 go_ret
 refine ⟨⟨_, [_], rfl, OwnS.one ?_ _ rfl, ?_⟩, ?_⟩
 ·exact D2.out.below.size
 ·rw [ER.out]; simp only [List.map_cons, List.map_nil, M.bs_append, HTX.out, Ea.out, Eb.out]; rfl
 ·exact D2.out.below.alloc D2.out.below.size _
end Go.Proofs.YtngpedcihajepaaGreatDoor
