/-
 Merged out of the texts Ca9 Cb9.
-/
import Derived.Deep.RegionHeld3
import Derived.Test.YtngpedcihajepaaGreatDoorProg
import Derived.WalkKit
import Derived.WalkSpells
import Derived.WalkLawsBesides
import Derived.Lib.Hide
import Derived.Below
import Derived.Deep.QuietTactic
import Derived.BigQuiet
import Derived.ProofKit
import Derived.ChangeMaps5
import Derived.Test.YtngpedcihajepaaGreatDoorBz1
import Derived.Test.YtngpedcihajepaaGreatDoorBz2
import Derived.Test.YtngpedcihajepaaGreatDoorBz3
import Derived.Test.YtngpedcihajepaaGreatDoorSq9
set_option linter.unusedVariables false
set_option linter.unusedSimpArgs false
set_option maxRecDepth 100000
set_option maxHeartbeats 40000000
namespace Go.Proofs.YtngpedcihajepaaGreatDoor
open Go.RowKit
theorem M.bs_empty {T : ByteArray} {l : List Nat} (h : M.bs T = l) : T.toList.isEmpty = decide (l = []) := by
 rw [M.empty_is, <- M.bs_len, h]
 cases l <;> simp

theorem risNumber_any (t : M.Tree) (v : Value) (w : World) (hv : NodeV w v t) : Calls Tryz.prog 86 #[v] w fun e w' => e = .returned (.bool (M.numberB t)) /\ Below w.heap.size w w' := by
 have hud := hud9
 obtain ⟨T, kv, rfl, hT, hok, A, cap, rfl, _⟩ := hv
 obtain ⟨r, er⟩ : ∃ r, r = M.numberB t := ⟨_, rfl⟩
 unfold M.numberB at er
 obtain ⟨K, eK⟩ : ∃ K, K = t.kind := ⟨_, rfl⟩
 obtain ⟨tx, ex⟩ : ∃ x, x = t.text := ⟨_, rfl⟩
 obtain ⟨n, en⟩ : ∃ n, n = t.num := ⟨_, rfl⟩
 obtain ⟨N, eN⟩ : ∃ N, N = t.kids.length := ⟨_, rfl⟩
 have er2 : r = M.numberB t := er
 rw [<- er2]
 clear er2
 rw [<- eK, <- ex, <- en, <- eN] at er
 rw [<- eK, <- en, <- eN]
 rw [<- ex] at hT
 have HE := Lib.hid (M.bs_empty hT)
 have HR := Lib.hid er
 have hn := hok.2.1
 rw [<- en] at hn
 have HB := Lib.hid fun o => balloc8 w o
 clear er hT hok eK ex en eN
 by_cases c0 : K = 14
 ·have g0 : (K == 14) = true := by rw [beq_iff_eq]; exact c0
  by_cases c1 : tx = []
  ·have g1 : T.toList.isEmpty = true := by rw [HE.out, decide_eq_true c1]
   by_cases c2 : n <= 4294967295
   ·have g2 : decide ((n : Int) <= 4294967295) = true := by rw [decide_eq_true_eq]; omega
    by_cases c3 : N = 0
    ·have g3 : ((N : Int) == 0) = true := by rw [beq_iff_eq]; omega
     obtain rfl : r = true := by rw [HR.out, decide_eq_true_eq]; exact ⟨c0, c1, c2, c3⟩
     clear c0 c1 c3
     go_enter Tryz.func86, Tryz.ntmps86
     go_wp2_with fail
     go_ret
     exact ⟨rfl, HB.out _⟩
    ·have g3 : ((N : Int) == 0) = false := by rw [beq_eq_false_iff_ne]; omega
     obtain rfl : r = false := by rw [HR.out, decide_eq_false_iff_not]; exact fun h => c3 h.2.2.2
     go_enter Tryz.func86, Tryz.ntmps86
     go_wp2_with fail
     go_ret
     exact ⟨rfl, HB.out _⟩
   ·have g2 : decide ((n : Int) <= 4294967295) = false := by rw [decide_eq_false_iff_not]; omega
    obtain rfl : r = false := by rw [HR.out, decide_eq_false_iff_not]; exact fun h => c2 h.2.2.1
    go_enter Tryz.func86, Tryz.ntmps86
    go_wp2_with fail
    go_ret
    exact ⟨rfl, HB.out _⟩
  ·have g1 : T.toList.isEmpty = false := by rw [HE.out, decide_eq_false c1]
   obtain rfl : r = false := by rw [HR.out, decide_eq_false_iff_not]; exact fun h => c1 h.2.1
   go_enter Tryz.func86, Tryz.ntmps86
   go_wp2_with fail
   go_ret
   exact ⟨rfl, HB.out _⟩
 ·have g0 : (K == 14) = false := by rw [beq_eq_false_iff_ne]; exact c0
  obtain rfl : r = false := by rw [HR.out, decide_eq_false_iff_not]; exact fun h => c0 h.1
  go_enter Tryz.func86, Tryz.ntmps86
  go_wp2_with fail
  go_ret
  exact ⟨rfl, HB.out _⟩

theorem risTo_any (t : M.Tree) (v : Value) (w : World) (hv : NodeV w v t) : Calls Tryz.prog 88 #[v] w fun e w' => e = .returned (.bool (M.toB t)) /\ Below w.heap.size w w' := by
 have hud := hud9
 obtain ⟨T, kv, rfl, hT, hok, A, cap, rfl, _⟩ := hv
 obtain ⟨r, er⟩ : ∃ r, r = M.toB t := ⟨_, rfl⟩
 unfold M.toB at er
 obtain ⟨K, eK⟩ : ∃ K, K = t.kind := ⟨_, rfl⟩
 obtain ⟨tx, ex⟩ : ∃ x, x = t.text := ⟨_, rfl⟩
 obtain ⟨n, en⟩ : ∃ n, n = t.num := ⟨_, rfl⟩
 obtain ⟨N, eN⟩ : ∃ N, N = t.kids.length := ⟨_, rfl⟩
 have er2 : r = M.toB t := er
 rw [<- er2]
 clear er2
 rw [<- eK, <- ex, <- en, <- eN] at er
 rw [<- eK, <- en, <- eN]
 rw [<- ex] at hT
 have HE := Lib.hid (M.bs_empty hT)
 have HR := Lib.hid er
 have hn := hok.2.1
 rw [<- en] at hn
 have HB := Lib.hid fun o => balloc8 w o
 clear er hT hok eK ex en eN
 by_cases c0 : K = 12
 ·have g0 : (K == 12) = true := by rw [beq_iff_eq]; exact c0
  by_cases c1 : tx = []
  ·have g1 : T.toList.isEmpty = true := by rw [HE.out, decide_eq_true c1]
   by_cases c2 : n <= 4294967295
   ·have g2 : decide ((n : Int) <= 4294967295) = true := by rw [decide_eq_true_eq]; omega
    by_cases c3 : N = 0
    ·have g3 : ((N : Int) == 0) = true := by rw [beq_iff_eq]; omega
     obtain rfl : r = true := by rw [HR.out, decide_eq_true_eq]; exact ⟨c0, c1, c2, c3⟩
     clear c0 c1 c3
     go_enter Tryz.func88, Tryz.ntmps88
     go_wp2_with fail
     go_ret
     exact ⟨rfl, HB.out _⟩
    ·have g3 : ((N : Int) == 0) = false := by rw [beq_eq_false_iff_ne]; omega
     obtain rfl : r = false := by rw [HR.out, decide_eq_false_iff_not]; exact fun h => c3 h.2.2.2
     go_enter Tryz.func88, Tryz.ntmps88
     go_wp2_with fail
     go_ret
     exact ⟨rfl, HB.out _⟩
   ·have g2 : decide ((n : Int) <= 4294967295) = false := by rw [decide_eq_false_iff_not]; omega
    obtain rfl : r = false := by rw [HR.out, decide_eq_false_iff_not]; exact fun h => c2 h.2.2.1
    go_enter Tryz.func88, Tryz.ntmps88
    go_wp2_with fail
    go_ret
    exact ⟨rfl, HB.out _⟩
  ·have g1 : T.toList.isEmpty = false := by rw [HE.out, decide_eq_false c1]
   obtain rfl : r = false := by rw [HR.out, decide_eq_false_iff_not]; exact fun h => c1 h.2.1
   go_enter Tryz.func88, Tryz.ntmps88
   go_wp2_with fail
   go_ret
   exact ⟨rfl, HB.out _⟩
 ·have g0 : (K == 12) = false := by rw [beq_eq_false_iff_ne]; exact c0
  obtain rfl : r = false := by rw [HR.out, decide_eq_false_iff_not]; exact fun h => c0 h.1
  go_enter Tryz.func88, Tryz.ntmps88
  go_wp2_with fail
  go_ret
  exact ⟨rfl, HB.out _⟩
theorem rname9_any (s : ByteArray) (w : World) (hs : s.size <= 140737488351232) : Calls Tryz.prog 130 #[.string s] w fun e w' => e = .returned (.bool (M.nameOk (M.bs s))) /\ Below w.heap.size w w' := by
 have hud := hud9
 have N2 := Lib.hid fun w => risName_any s w hs
 have R2 := Lib.hid fun w => risReserved_any s w
 unfold M.nameOk
 have HB := Lib.hid (Below.refl w.heap.size w)
 cases h1 : M.isName (M.bs s) with
 | false =>
  rw [h1] at N2
  clear h1
  go_enter Tryz.func130, Tryz.ntmps130
  go_wp2_with fail
  (with_reducible refine (N2.out _).mono ?_)
  rintro e w' ⟨rfl, rfl⟩
  go_wp2_with fail
  go_ret
  exact ⟨rfl, HB.out⟩
 | true =>
  rw [h1] at N2
  clear h1
  cases h2 : M.wordB (M.bs s) with
  | false =>
   rw [h2] at R2
   clear h2
   go_enter Tryz.func130, Tryz.ntmps130
   go_wp2_with fail
   (with_reducible refine (N2.out _).mono ?_)
   rintro e w' ⟨rfl, rfl⟩
   go_wp2_with fail
   (with_reducible refine (R2.out _).mono ?_)
   rintro e w1 ⟨rfl, hb⟩
   have HB1 := Lib.hid hb
   clear hb
   go_wp2_with fail
   go_ret
   exact ⟨rfl, HB1.out⟩
  | true =>
   rw [h2] at R2
   clear h2
   go_enter Tryz.func130, Tryz.ntmps130
   go_wp2_with fail
   (with_reducible refine (N2.out _).mono ?_)
   rintro e w' ⟨rfl, rfl⟩
   go_wp2_with fail
   (with_reducible refine (R2.out _).mono ?_)
   rintro e w1 ⟨rfl, hb⟩
   have HB1 := Lib.hid hb
   clear hb
   go_wp2_with fail
   go_ret
   exact ⟨rfl, HB1.out⟩
theorem all_at9 {p : M.Tree -> Bool} {l : List M.Tree} {i : Nat} (hi : i < l.length) (h : p (l.getD i M.Tree.no) = false) : l.all p = false := by
 cases e : l.all p with
 | false => rfl
 | true =>
  rw [List.all_eq_true] at e
  have := e _ (by rw [List.getD_eq_getElem?_getD, List.getElem?_eq_getElem hi]; exact List.getElem_mem hi : l.getD i M.Tree.no ∈ l)
  rw [this] at h; cases h
theorem all_of9 {p : M.Tree -> Bool} {l : List M.Tree} (h : ∀ i, i < l.length -> p (l.getD i M.Tree.no) = true) : l.all p = true := by
 rw [List.all_eq_true]
 intro t ht
 obtain ⟨i, hi, rfl⟩ := List.getElem_of_mem ht
 have := h i hi
 rwa [List.getD_eq_getElem?_getD, List.getElem?_eq_getElem hi] at this
theorem rall9_any {c : Int} {p : M.Tree -> Bool} (l : List M.Tree) (hp : ∀ i, i < l.length -> ∀ (v : Value) (w : World), NodeV w v (l.getD i M.Tree.no) -> Calls Tryz.prog 46 #[v, .int .i64 c] w fun e w' => e = .returned (.bool (p (l.getD i M.Tree.no))) /\ Below w.heap.size w w') (v : Value) (w : World) (hv : KidsV w v l) :
  Calls Tryz.prog 31 #[v, .int .i64 c] w fun e w' => e = .returned (.bool (l.all p)) /\ Below w.heap.size w w' := by
 have hud := hud9
 have HP := Lib.hid hp
 obtain ⟨r, er⟩ : ∃ r, r = l.all p := ⟨_, rfl⟩
 rw [<- er]
 have HR := Lib.hid er
 obtain ⟨A, cap, rfl, _⟩ := id hv
 obtain ⟨-, h1, h2, h3⟩ := hv.kid
 have HK := Lib.hid h3
 have HB0 := Lib.hid (Below.refl w.heap.size w)
 clear hp er hv h3
 go_enter Tryz.func31, Tryz.ntmps31
 go_wp2_with fail
 go_loopw [9] (fun ti wr => ∃ k : Nat, k <= l.length /\ ti = .int .i64 k /\ (∀ j, j < k -> p (l.getD j M.Tree.no) = true) /\ Below w.heap.size w wr) (fun ti _ => l.length - (intOf ti).toNat)
 case atStart => exact ⟨0, Nat.zero_le _, rfl, fun j hj => absurd hj (by omega), HB0.out⟩
 case round =>
  obtain ⟨k, hk, rfl, hall, hB⟩ := hrel
  have HA := Lib.hid hall
  have HB := Lib.hid hB
  clear hall hB
  by_cases hlt : k < l.length
  ·obtain ⟨b, off, rfl, hbl, hcell⟩ := HK.out (by omega)
   obtain ⟨T2, A2, n3, c3, x0, x1, x2, x3, hn⟩ := hcell k hlt
   have p0 := (HB.out.cell (p := ⟨b, off + k * 4, none⟩) hbl).trans x0
   have p1 := (HB.out.cell (p := ⟨b, off + k * 4 + 1, none⟩) hbl).trans x1
   have p2 := (HB.out.cell (p := ⟨b, off + k * 4 + 2, none⟩) hbl).trans x2
   have p3 := (HB.out.cell (p := ⟨b, off + k * 4 + 3, none⟩) hbl).trans x3
   have HN := Lib.hid hn
   have hpk := HP.out k hlt
   have AT := Lib.hid fun h => all_at9 (p := p) hlt h
   obtain ⟨q, eq⟩ : ∃ q, q = p (l.getD k M.Tree.no) := ⟨_, rfl⟩
   have EQ := Lib.hid eq
   have CK := Lib.hid fun w' (hb : Below w.heap.size w w') => hpk _ w' (HN.out.below hb)
   rw [<- eq] at CK AT
   obtain ⟨K2, eK2⟩ : ∃ K, K = (l.getD k M.Tree.no).kind := ⟨_, rfl⟩
   obtain ⟨n2, en2⟩ : ∃ n, n = (l.getD k M.Tree.no).num := ⟨_, rfl⟩
   rw [<- eK2, <- en2] at CK
   rw [<- eK2] at p0
   rw [<- en2] at p2
   have HBX := Lib.hid fun o => HB.out.alloc HB.out.size o
   clear hcell x0 x1 x2 x3 hn hpk eq eK2 en2
   cases hq : q with
   | true =>
    rw [hq] at CK
    clear AT
    go_wp2_with fail
    (with_reducible refine (CK.out _ (HBX.out _)).mono ?_)
    rintro e w2 ⟨rfl, hb2⟩
    have HB2 := Lib.hid ((HBX.out _).trans (hb2.mono (HBX.out _).size))
    clear hb2
    go_wp2_with fail
    go_roundw
    case rel => exact ⟨k + 1, by omega, by go_num, fun j hj => by
     rcases (show j < k \/ j = k by omega) with h | rfl
     ·exact HA.out j h
     ·rw [<- EQ.out]; exact hq, HB2.out⟩
    case measure => simp [intOf]; omega
   | false =>
    rw [hq] at CK
    obtain rfl : r = false := by rw [HR.out]; exact AT.out hq
    clear AT
    go_wp2_with fail
    (with_reducible refine (CK.out _ (HBX.out _)).mono ?_)
    rintro e w2 ⟨rfl, hb2⟩
    have HB2 := Lib.hid ((HBX.out _).trans (hb2.mono (HBX.out _).size))
    clear hb2
    go_wp2_with fail
    go_ret
    exact ⟨rfl, HB2.out⟩
  ·obtain rfl : k = l.length := by omega
   obtain rfl : r = true := by rw [HR.out]; exact all_of9 HA.out
   go_wp2_with fail
   go_ret
   exact ⟨rfl, HB.out⟩
end Go.Proofs.YtngpedcihajepaaGreatDoor
