/-
 Merged out of the texts Nd9 Nb9.
-/
import Derived.Lib.MinMax
import Derived.Test.YtngpedcihajepaaGreatDoorProg
import Derived.Deep.RegionHeld3
import Derived.WalkKit
import Derived.WalkSpells
import Derived.WalkLawsBesides
import Derived.Lib.Hide
import Derived.Below
import Derived.Deep.QuietTactic
import Derived.BigQuiet
import Derived.ProofKit
import Derived.ChangeMaps5
import Derived.Test.YtngpedcihajepaaGreatDoorBz1
import Derived.Test.YtngpedcihajepaaGreatDoorBz2
import Derived.Test.YtngpedcihajepaaGreatDoorBz3
import Derived.Test.YtngpedcihajepaaGreatDoorBz4
import Derived.Test.YtngpedcihajepaaGreatDoorBz5
import Derived.Test.YtngpedcihajepaaGreatDoorBz11
import Derived.Test.YtngpedcihajepaaGreatDoorSq9
set_option linter.unusedVariables false
set_option linter.unusedSimpArgs false
set_option maxRecDepth 100000
set_option maxHeartbeats 40000000
namespace Go.Proofs.YtngpedcihajepaaGreatDoor
open Go.RowKit
theorem pnodes_ind (m : Nat) : ∀ (t : M.Tree), M.count t <= m -> ∀ (v : Value) (w : World), NodeV w v t -> Calls Tryz.prog 16 #[v] w fun e w' => e = .returned (.int .i64 (wrap64 (M.count t : Nat))) /\ Below w.heap.size w w' := by
 induction m with
 | zero => intro t ht; have := M.count_pos t; omega
 | succ m ih =>
  intro t ht v w hv
  have IH := Lib.hid ih
  have hud := hud9
  obtain ⟨T, kv, rfl, hT, hok, hk⟩ := hv
  obtain ⟨K, eK⟩ : ∃ K, K = t.kind := ⟨_, rfl⟩
  obtain ⟨n, en⟩ : ∃ n, n = t.num := ⟨_, rfl⟩
  obtain ⟨l, el⟩ : ∃ l, l = t.kids := ⟨_, rfl⟩
  have hct : M.count t = 1 + M.countL l := by rw [el]; cases t; rfl
  rw [<- eK, <- en]
  rw [<- el] at hk
  rw [hct]
  have hsm : ∀ i, i < l.length -> M.count (l.getD i M.Tree.no) <= m := fun i hi => by
   have := M.count_kid (t := t) (k := l.getD i M.Tree.no) (by rw [<- el, List.getD_eq_getElem?_getD, List.getElem?_eq_getElem hi]; exact List.getElem_mem hi)
   omega
  have HSM := Lib.hid hsm
  obtain ⟨A, cap, rfl, _⟩ := id hk
  obtain ⟨-, h1, h2, h3⟩ := hk.kid
  have HK := Lib.hid h3
  have HB0 := Lib.hid (balloc8 w (.cells #[.int .i64 K, .string T, .int .u64 (n : Nat), .slice A l.length cap] 25))
  clear hT hok hk eK en el hct hsm h3 ih ht
  go_enter Tryz.func16, Tryz.ntmps16
  go_wp2_with fail
  go_loopw [3, 9] (fun ta ti wr => ∃ k : Nat, k <= l.length /\ ti = .int .i64 k /\ ta = .int .i64 (wrap64 ((1 + M.countL (l.take k) : Nat) : Int)) /\ Below w.heap.size w wr) (fun _ ti _ => l.length - (intOf ti).toNat)
  case atStart => exact ⟨0, Nat.zero_le _, rfl, by simp [M.countL, wrap64], HB0.out⟩
  case round =>
   obtain ⟨k, hk, rfl, rfl, hB⟩ := hrel
   have HB := Lib.hid hB
   clear hB
   by_cases hlt : k < l.length
   ·obtain ⟨b, off, rfl, hbl, hcell⟩ := HK.out (by omega)
    obtain ⟨T2, A2, n3, c3, x0, x1, x2, x3, hn⟩ := hcell k hlt
    have p0 := (HB.out.cell (p := ⟨b, off + k * 4, none⟩) hbl).trans x0
    have p1 := (HB.out.cell (p := ⟨b, off + k * 4 + 1, none⟩) hbl).trans x1
    have p2 := (HB.out.cell (p := ⟨b, off + k * 4 + 2, none⟩) hbl).trans x2
    have p3 := (HB.out.cell (p := ⟨b, off + k * 4 + 3, none⟩) hbl).trans x3
    have HT := Lib.hid (countL_take hlt)
    have hc := HSM.out k hlt
    obtain ⟨u, eu⟩ : ∃ u, u = l.getD k M.Tree.no := ⟨_, rfl⟩
    rw [<- eu] at p0 p2 hn hc HT
    obtain ⟨K2, eK2⟩ : ∃ K, K = u.kind := ⟨_, rfl⟩
    obtain ⟨n2, en2⟩ : ∃ n, n = u.num := ⟨_, rfl⟩
    rw [<- eK2] at p0 hn
    rw [<- en2] at p2 hn
    have HN := Lib.hid hn
    have HBX := Lib.hid fun o => HB.out.alloc HB.out.size o
    have CK := Lib.hid fun w' (hb : Below w.heap.size w w') => IH.out u hc _ w' (HN.out.below hb)
    clear hcell x0 x1 x2 x3 eu eK2 en2 hn hc
    go_wp2_with fail
    (with_reducible refine (CK.out _ (HBX.out _)).mono ?_)
    rintro e w2 ⟨rfl, hb2⟩
    have HB2 := Lib.hid ((HBX.out _).trans (hb2.mono (HBX.out _).size))
    clear hb2
    go_wp2_with fail
    go_roundw
    case rel => exact ⟨k + 1, by omega, by go_num, by rw [wrap64_add, HT.out]; congr 2; omega, HB2.out⟩
    case measure => simp [intOf]; omega
   ·obtain rfl : k = l.length := by omega
    rw [List.take_length]
    go_wp2_with fail
    go_ret
    exact ⟨rfl, HB.out⟩
theorem pdeep_ind (m : Nat) : ∀ (t : M.Tree), M.count t <= m -> M.count t <= 4611686018427387904 -> ∀ (v : Value) (w : World), NodeV w v t -> Calls Tryz.prog 18 #[v] w fun e w' => e = .returned (.int .i64 (M.deep t : Nat)) /\ Below w.heap.size w w' := by
 induction m with
 | zero => intro t ht; have := M.count_pos t; omega
 | succ m ih =>
  intro t ht hbg v w hv
  have IH := Lib.hid ih
  have hud := hud9
  obtain ⟨T, kv, rfl, hT, hok, hk⟩ := hv
  obtain ⟨K, eK⟩ : ∃ K, K = t.kind := ⟨_, rfl⟩
  obtain ⟨n, en⟩ : ∃ n, n = t.num := ⟨_, rfl⟩
  obtain ⟨l, el⟩ : ∃ l, l = t.kids := ⟨_, rfl⟩
  have hct : M.deep t = M.deepL l + 1 := by rw [el]; cases t; rfl
  have hlc : M.countL l < M.count t := by rw [el]; cases t; rw [M.count]; show M.countL _ < _; simp only [M.Tree.kids]; omega
  rw [<- eK, <- en]
  rw [<- el] at hk
  rw [hct]
  have hsm : ∀ i, i < l.length -> M.count (l.getD i M.Tree.no) <= m := fun i hi => by
   have := M.count_kid (t := t) (k := l.getD i M.Tree.no) (by rw [<- el, List.getD_eq_getElem?_getD, List.getElem?_eq_getElem hi]; exact List.getElem_mem hi)
   omega
  have HSM := Lib.hid hsm
  have hdl := fun k => (show M.deepL (l.take k) <= 4611686018427387904 by have h1 := deepL_count (l.take k); have h2 := countL_le l k; omega)
  have HDL := Lib.hid hdl
  have HBG := Lib.hid (show ∀ i, i < l.length -> M.count (l.getD i M.Tree.no) <= 4611686018427387904 from fun i hi => by have := hsm i hi; have h1 := M.count_mem (l := l) (t := l.getD i M.Tree.no) (by rw [List.getD_eq_getElem?_getD, List.getElem?_eq_getElem hi]; exact List.getElem_mem hi); omega)
  obtain ⟨A, cap, rfl, _⟩ := id hk
  obtain ⟨-, h1, h2, h3⟩ := hk.kid
  have HK := Lib.hid h3
  have HB0 := Lib.hid (balloc8 w (.cells #[.int .i64 K, .string T, .int .u64 (n : Nat), .slice A l.length cap] 25))
  clear hT hok hk eK en el hct hsm h3 ih ht hlc hbg hdl
  go_enter Tryz.func18, Tryz.ntmps18
  go_wp2_with fail
  go_loopw [3, 9] (fun ta ti wr => ∃ k : Nat, k <= l.length /\ ti = .int .i64 k /\ ta = .int .i64 (M.deepL (l.take k) : Nat) /\ Below w.heap.size w wr) (fun _ ti _ => l.length - (intOf ti).toNat)
  case atStart => exact ⟨0, Nat.zero_le _, rfl, rfl, HB0.out⟩
  case round =>
   obtain ⟨k, hk, rfl, rfl, hB⟩ := hrel
   have HB := Lib.hid hB
   clear hB
   by_cases hlt : k < l.length
   ·obtain ⟨b, off, rfl, hbl, hcell⟩ := HK.out (by omega)
    obtain ⟨T2, A2, n3, c3, x0, x1, x2, x3, hn⟩ := hcell k hlt
    have p0 := (HB.out.cell (p := ⟨b, off + k * 4, none⟩) hbl).trans x0
    have p1 := (HB.out.cell (p := ⟨b, off + k * 4 + 1, none⟩) hbl).trans x1
    have p2 := (HB.out.cell (p := ⟨b, off + k * 4 + 2, none⟩) hbl).trans x2
    have p3 := (HB.out.cell (p := ⟨b, off + k * 4 + 3, none⟩) hbl).trans x3
    have HT := Lib.hid (deepL_take hlt)
    have hc := HSM.out k hlt
    have hcb := HBG.out k hlt
    obtain ⟨u, eu⟩ : ∃ u, u = l.getD k M.Tree.no := ⟨_, rfl⟩
    rw [<- eu] at p0 p2 hn hc hcb HT
    obtain ⟨K2, eK2⟩ : ∃ K, K = u.kind := ⟨_, rfl⟩
    obtain ⟨n2, en2⟩ : ∃ n, n = u.num := ⟨_, rfl⟩
    rw [<- eK2] at p0 hn
    rw [<- en2] at p2 hn
    have HN := Lib.hid hn
    have HBX := Lib.hid fun o => HB.out.alloc HB.out.size o
    have CK := Lib.hid fun w' (hb : Below w.heap.size w w') => IH.out u hc hcb _ w' (HN.out.below hb)
    have HD1 := Lib.hid (HDL.out (k + 1))
    clear hcell x0 x1 x2 x3 eu eK2 en2 hn hc hcb
    go_wp2_with fail
    (with_reducible refine (CK.out _ (HBX.out _)).mono ?_)
    rintro e w2 ⟨rfl, hb2⟩
    have HB2 := Lib.hid ((HBX.out _).trans (hb2.mono (HBX.out _).size))
    clear hb2
    go_wp2_with fail
    go_roundw
    case rel => exact ⟨k + 1, by omega, by go_num, by rw [HT.out]; go_num, HB2.out⟩
    case measure => simp [intOf]; omega
   ·obtain rfl : k = l.length := by omega
    have hd := HDL.out l.length
    rw [List.take_length] at hd ⊢
    go_wp2_with fail
    go_ret
    exact ⟨rfl, HB.out⟩
structure NB (w : World) (K : Int) (T : ByteArray) (n : Nat) (kv : Value) (W : World) : Prop where
 below : Below w.heap.size w W
 lt : w.heap.size < W.heap.size
 c0 : W.cell? ⟨w.heap.size, 0, none⟩ = some (.int .i64 K)
 c1 : W.cell? ⟨w.heap.size, 1, none⟩ = some (.string T)
 c2 : W.cell? ⟨w.heap.size, 2, none⟩ = some (.int .u64 (n : Nat))
 c3 : W.cell? ⟨w.heap.size, 3, none⟩ = some kv
theorem NB.start (w : World) (K : Int) (T : ByteArray) (n : Nat) (kv : Value) : NB w K T n kv (w.alloc (.cells #[.int .i64 K, .string T, .int .u64 (n : Nat), kv] 25)) :=
 ⟨balloc8 w _, by simp, by simp, by simp, by simp, by simp⟩
theorem NB.next {w : World} {K : Int} {T : ByteArray} {n : Nat} {kv : Value} {W W' : World} (h : NB w K T n kv W) (hb : Below W.heap.size W W') : NB w K T n kv W' :=
 ⟨h.below.trans (hb.mono h.below.size), Nat.lt_of_lt_of_le h.lt hb.size, (hb.cell (p := ⟨w.heap.size, 0, none⟩) h.lt).trans h.c0, (hb.cell (p := ⟨w.heap.size, 1, none⟩) h.lt).trans h.c1, (hb.cell (p := ⟨w.heap.size, 2, none⟩) h.lt).trans h.c2, (hb.cell (p := ⟨w.heap.size, 3, none⟩) h.lt).trans h.c3⟩
theorem NB.drew {w : World} {K : Int} {T : ByteArray} {n : Nat} {kv : Value} {W : World} (h : NB w K T n kv W) : NB w K T n kv W.drew := h.next (Below.refl _ _).drew
theorem drop_getD {l : List M.Tree} {i j : Nat} : (l.drop i).getD j M.Tree.no = l.getD (i + j) M.Tree.no := by
 rw [List.getD_eq_getElem?_getD, List.getElem?_drop, <- List.getD_eq_getElem?_getD]
theorem take_getD {l : List M.Tree} {i j : Nat} (h : j < i) : (l.take i).getD j M.Tree.no = l.getD j M.Tree.no := by
 rw [List.getD_eq_getElem?_getD, List.getElem?_take_of_lt h, <- List.getD_eq_getElem?_getD]
theorem KidsV.cut {w : World} {b off c : Nat} {l : List M.Tree} (h : KidsV w (.slice (some ⟨b, off, none⟩) l.length c) l) (i j : Nat) (hij : i <= j) (hj : j <= l.length) : KidsV w (.slice (some ⟨b, off + i * 4, none⟩) (j - i) (c - i)) ((l.drop i).take (j - i)) := by
 obtain ⟨A, cap, e, h1, h2, h3⟩ := h
 injection e with e1 e2 e3
 subst e3
 have hl : ((l.drop i).take (j - i)).length = j - i := by rw [List.length_take, List.length_drop]; omega
 refine ⟨some ⟨b, off + i * 4, none⟩, c - i, by rw [hl], by rw [hl]; omega, by rw [hl]; omega, fun h0 => ?_⟩
 rw [hl] at h0
 obtain ⟨b', off', e, h4, h5⟩ := h3 (by omega)
 rw [<- e1] at e
 cases e
 refine ⟨b, off + i * 4, rfl, h4, KidsAt.of fun k hk => ?_⟩
 rw [hl] at hk
 have h6 := h5.get (i + k) (by omega)
 rw [take_getD hk, drop_getD, show off + i * 4 + k * 4 = off + (i + k) * 4 by omega]
 exact h6
theorem KidsV.at {w : World} {A : Option Addr} {c : Nat} {l : List M.Tree} (h : KidsV w (.slice A l.length c) l) (i : Nat) (hi : i < l.length) : ∃ (b off : Nat) (T : ByteArray) (A2 : Option Addr) (n2 c2 : Nat), A = some ⟨b, off, none⟩ /\ b < w.heap.size /\
  w.cell? ⟨b, off + i * 4, none⟩ = some (.int .i64 (l.getD i M.Tree.no).kind) /\ w.cell? ⟨b, off + i * 4 + 1, none⟩ = some (.string T) /\ w.cell? ⟨b, off + i * 4 + 2, none⟩ = some (.int .u64 ((l.getD i M.Tree.no).num : Nat)) /\ w.cell? ⟨b, off + i * 4 + 3, none⟩ = some (.slice A2 n2 c2) /\
  NodeV w (.agg #[.int .i64 (l.getD i M.Tree.no).kind, .string T, .int .u64 ((l.getD i M.Tree.no).num : Nat), .slice A2 n2 c2]) (l.getD i M.Tree.no) := by
 obtain ⟨-, -, -, h3⟩ := h.kid
 obtain ⟨b, off, e, h4, h5⟩ := h3 (by omega)
 obtain ⟨T, A2, n2, c2, h6⟩ := h5 i hi
 exact ⟨b, off, T, A2, n2, c2, e, h4, h6⟩
def IsC (c : Int) (p : M.Tree -> Bool) (t : M.Tree) : Prop := ∀ (v : Value) (w : World), NodeV w v t -> Calls Tryz.prog 46 #[v, .int .i64 c] w fun e w' => e = .returned (.bool (p t)) /\ Below w.heap.size w w'
def FnC (f : Nat) (p : M.Tree -> Bool) (t : M.Tree) : Prop := ∀ (v : Value) (w : World), NodeV w v t -> Calls Tryz.prog f #[v] w fun e w' => e = .returned (.bool (p t)) /\ Below w.heap.size w w'
theorem is_0 {p : M.Tree -> Bool} {t : M.Tree} (h : FnC 86 p t) : IsC 0 p t := by
 intro v w hv
 have H := Lib.hid fun w' (hb : Below w.heap.size w w') => h v w' (hv.below hb)
 obtain ⟨T, kv, rfl, hT, hok, A, cap, rfl, _⟩ := hv
 have HB := Lib.hid fun o => balloc8 w o
 have HB := Lib.hid fun o => balloc8 w o
 clear hT hok
 go_enter Tryz.func46, Tryz.ntmps46
 go_wp2_with fail
 (with_reducible refine (H.out _ (HB.out _)).mono ?_)
 rintro e w1 ⟨rfl, hb⟩
 have HB1 := Lib.hid (bnext8 (HB.out _) hb)
 clear hb
 go_wp2_with fail
 go_ret
 exact ⟨rfl, HB1.out⟩
theorem is_1 {p : M.Tree -> Bool} {t : M.Tree} (h : FnC 87 p t) : IsC 1 p t := by
 intro v w hv
 have H := Lib.hid fun w' (hb : Below w.heap.size w w') => h v w' (hv.below hb)
 obtain ⟨T, kv, rfl, hT, hok, A, cap, rfl, _⟩ := hv
 have HB := Lib.hid fun o => balloc8 w o
 have HB := Lib.hid fun o => balloc8 w o
 clear hT hok
 go_enter Tryz.func46, Tryz.ntmps46
 go_wp2_with fail
 (with_reducible refine (H.out _ (HB.out _)).mono ?_)
 rintro e w1 ⟨rfl, hb⟩
 have HB1 := Lib.hid (bnext8 (HB.out _) hb)
 clear hb
 go_wp2_with fail
 go_ret
 exact ⟨rfl, HB1.out⟩
theorem is_2 {p : M.Tree -> Bool} {t : M.Tree} (h : FnC 88 p t) : IsC 2 p t := by
 intro v w hv
 have H := Lib.hid fun w' (hb : Below w.heap.size w w') => h v w' (hv.below hb)
 obtain ⟨T, kv, rfl, hT, hok, A, cap, rfl, _⟩ := hv
 have HB := Lib.hid fun o => balloc8 w o
 have HB := Lib.hid fun o => balloc8 w o
 clear hT hok
 go_enter Tryz.func46, Tryz.ntmps46
 go_wp2_with fail
 (with_reducible refine (H.out _ (HB.out _)).mono ?_)
 rintro e w1 ⟨rfl, hb⟩
 have HB1 := Lib.hid (bnext8 (HB.out _) hb)
 clear hb
 go_wp2_with fail
 go_ret
 exact ⟨rfl, HB1.out⟩
theorem is_3 {p : M.Tree -> Bool} {t : M.Tree} (h : FnC 89 p t) : IsC 3 p t := by
 intro v w hv
 have H := Lib.hid fun w' (hb : Below w.heap.size w w') => h v w' (hv.below hb)
 obtain ⟨T, kv, rfl, hT, hok, A, cap, rfl, _⟩ := hv
 have HB := Lib.hid fun o => balloc8 w o
 have HB := Lib.hid fun o => balloc8 w o
 clear hT hok
 go_enter Tryz.func46, Tryz.ntmps46
 go_wp2_with fail
 (with_reducible refine (H.out _ (HB.out _)).mono ?_)
 rintro e w1 ⟨rfl, hb⟩
 have HB1 := Lib.hid (bnext8 (HB.out _) hb)
 clear hb
 go_wp2_with fail
 go_ret
 exact ⟨rfl, HB1.out⟩
theorem is_4 {p : M.Tree -> Bool} {t : M.Tree} (h : FnC 90 p t) : IsC 4 p t := by
 intro v w hv
 have H := Lib.hid fun w' (hb : Below w.heap.size w w') => h v w' (hv.below hb)
 obtain ⟨T, kv, rfl, hT, hok, A, cap, rfl, _⟩ := hv
 have HB := Lib.hid fun o => balloc8 w o
 have HB := Lib.hid fun o => balloc8 w o
 clear hT hok
 go_enter Tryz.func46, Tryz.ntmps46
 go_wp2_with fail
 (with_reducible refine (H.out _ (HB.out _)).mono ?_)
 rintro e w1 ⟨rfl, hb⟩
 have HB1 := Lib.hid (bnext8 (HB.out _) hb)
 clear hb
 go_wp2_with fail
 go_ret
 exact ⟨rfl, HB1.out⟩
theorem is_5 {p : M.Tree -> Bool} {t : M.Tree} (h : FnC 91 p t) : IsC 5 p t := by
 intro v w hv
 have H := Lib.hid fun w' (hb : Below w.heap.size w w') => h v w' (hv.below hb)
 obtain ⟨T, kv, rfl, hT, hok, A, cap, rfl, _⟩ := hv
 have HB := Lib.hid fun o => balloc8 w o
 have HB := Lib.hid fun o => balloc8 w o
 clear hT hok
 go_enter Tryz.func46, Tryz.ntmps46
 go_wp2_with fail
 (with_reducible refine (H.out _ (HB.out _)).mono ?_)
 rintro e w1 ⟨rfl, hb⟩
 have HB1 := Lib.hid (bnext8 (HB.out _) hb)
 clear hb
 go_wp2_with fail
 go_ret
 exact ⟨rfl, HB1.out⟩
end Go.Proofs.YtngpedcihajepaaGreatDoor
