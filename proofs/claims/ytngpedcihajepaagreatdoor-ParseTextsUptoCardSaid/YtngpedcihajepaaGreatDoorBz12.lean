/-
 Merged out of the texts Cd9 Ce9 Cf9 Cg9 Ch9 Ci9 Cj9 Ck9 Cl9.
-/
import Derived.Test.YtngpedcihajepaaGreatDoorProg
import Derived.Deep.RegionHeld3
import Derived.WalkKit
import Derived.WalkSpells
import Derived.WalkLawsBesides
import Derived.Lib.Hide
import Derived.Below
import Derived.Deep.QuietTactic
import Derived.BigQuiet
import Derived.ProofKit
import Derived.ChangeMaps5
import Derived.Lib.MinMax
import Derived.Test.YtngpedcihajepaaGreatDoorBz1
import Derived.Test.YtngpedcihajepaaGreatDoorBz2
import Derived.Test.YtngpedcihajepaaGreatDoorBz3
import Derived.Test.YtngpedcihajepaaGreatDoorBz4
import Derived.Test.YtngpedcihajepaaGreatDoorBz5
import Derived.Test.YtngpedcihajepaaGreatDoorBz6
import Derived.Test.YtngpedcihajepaaGreatDoorBz11
import Derived.Test.YtngpedcihajepaaGreatDoorSq9
set_option linter.unusedVariables false
set_option linter.unusedSimpArgs false
set_option maxRecDepth 100000
set_option maxHeartbeats 40000000
namespace Go.Proofs.YtngpedcihajepaaGreatDoor
open Go.RowKit

theorem risBlock_any (t : M.Tree) {p : M.Tree -> Bool} (hp : ∀ l, l = t.kids -> ∀ i, i < l.length -> IsC 4 p (l.getD i M.Tree.no)) : FnC 89 (M.blockB p) t := by
 intro v w hv
 have hud := hud9
 obtain ⟨T, kv, rfl, hT, hok, hk⟩ := hv
 obtain ⟨r, er⟩ : ∃ r, r = (M.blockB p) t := ⟨_, rfl⟩
 rw [<- er]
 unfold M.blockB at er
 obtain ⟨K, eK⟩ : ∃ K, K = t.kind := ⟨_, rfl⟩
 obtain ⟨tx, ex⟩ : ∃ x, x = t.text := ⟨_, rfl⟩
 obtain ⟨n, en⟩ : ∃ n, n = t.num := ⟨_, rfl⟩
 obtain ⟨l, el⟩ : ∃ l, l = t.kids := ⟨_, rfl⟩
 rw [<- eK, <- ex, <- en, <- el] at er
 rw [<- eK, <- en]
 rw [<- ex] at hT
 rw [<- el] at hk
 obtain ⟨A, cap, rfl, _⟩ := id hk
 have HE := Lib.hid (M.bs_empty hT)
 have hn := hok.2.1
 have hsz := hok.2.2
 rw [<- en] at hn
 have S0 := Lib.hid (NB.start w K T n (.slice A l.length cap))
 have AL := Lib.hid fun w' (hb : Below w.heap.size w w') => rall9_any l (hp l el) (.slice A l.length cap) w' (hk.below hb)
 clear hp
 have HKK := Lib.hid hk
 clear hT hok hk eK ex en el hsz
 by_cases c0 : K = 10
 ·have gk : (K == 10) = true := by rw [beq_iff_eq]; exact c0
  have gk2 : (K != 10) = false := by rw [bne_eq_false_iff_eq]; exact c0
  have C0 := Lib.hid c0
  clear c0
  by_cases c1 : tx = []
  ·have gt : T.toList.isEmpty = true := by rw [HE.out, decide_eq_true c1]
   have C1 := Lib.hid c1
   clear c1
   by_cases c2 : n = 0
   ·have gn0 : ((n : Int) == 0) = true := by rw [beq_iff_eq]; omega
    have C2 := Lib.hid c2
    clear c2
    by_cases c3 : l.all p = true
    ·rw [c3] at AL
     have C3 := Lib.hid c3
     clear c3
     obtain rfl : r = true := by rw [er]; exact decide_eq_true ⟨C0.out, C1.out, C2.out, C3.out⟩
     clear er
     go_enter Tryz.func89, Tryz.ntmps89
     go_wp2_with fail
     (with_reducible refine (AL.out _ S0.out.below).mono ?_)
     rintro e w1 ⟨rfl, hb⟩
     have S1 := Lib.hid (S0.out.next hb)
     obtain ⟨-, -, y0, y1, y2, y3⟩ := id S1.out
     clear hb
     go_wp2_with fail
     go_ret
     exact ⟨rfl, S1.out.below⟩
    ·rw [Bool.eq_false_iff.2 c3] at AL
     have C3 := Lib.hid c3
     clear c3
     obtain rfl : r = false := by rw [er]; exact decide_eq_false fun h => C3.out h.2.2.2
     clear er
     go_enter Tryz.func89, Tryz.ntmps89
     go_wp2_with fail
     (with_reducible refine (AL.out _ S0.out.below).mono ?_)
     rintro e w1 ⟨rfl, hb⟩
     have S1 := Lib.hid (S0.out.next hb)
     obtain ⟨-, -, y0, y1, y2, y3⟩ := id S1.out
     clear hb
     go_wp2_with fail
     go_ret
     exact ⟨rfl, S1.out.below⟩
   ·have gn0 : ((n : Int) == 0) = false := by rw [beq_eq_false_iff_ne]; omega
    have C2 := Lib.hid c2
    clear c2
    obtain rfl : r = false := by rw [er]; exact decide_eq_false fun h => C2.out h.2.2.1
    clear er
    go_enter Tryz.func89, Tryz.ntmps89
    go_wp2_with fail
    go_ret
    exact ⟨rfl, S0.out.below⟩
  ·have gt : T.toList.isEmpty = false := by rw [HE.out, decide_eq_false c1]
   have C1 := Lib.hid c1
   clear c1
   obtain rfl : r = false := by rw [er]; exact decide_eq_false fun h => C1.out h.2.1
   clear er
   go_enter Tryz.func89, Tryz.ntmps89
   go_wp2_with fail
   go_ret
   exact ⟨rfl, S0.out.below⟩
 ·have gk : (K == 10) = false := by rw [beq_eq_false_iff_ne]; exact c0
  have gk2 : (K != 10) = true := by rw [bne_iff_ne]; exact c0
  have C0 := Lib.hid c0
  clear c0
  obtain rfl : r = false := by rw [er]; exact decide_eq_false fun h => C0.out h.1
  clear er
  go_enter Tryz.func89, Tryz.ntmps89
  go_wp2_with fail
  go_ret
  exact ⟨rfl, S0.out.below⟩

theorem risType_any (t : M.Tree) : FnC 131 M.typeB t := by
 intro v w hv
 have hud := hud9
 obtain ⟨T, kv, rfl, hT, hok, hk⟩ := hv
 obtain ⟨r, er⟩ : ∃ r, r = M.typeB t := ⟨_, rfl⟩
 rw [<- er]
 unfold M.typeB at er
 obtain ⟨K, eK⟩ : ∃ K, K = t.kind := ⟨_, rfl⟩
 obtain ⟨tx, ex⟩ : ∃ x, x = t.text := ⟨_, rfl⟩
 obtain ⟨n, en⟩ : ∃ n, n = t.num := ⟨_, rfl⟩
 obtain ⟨l, el⟩ : ∃ l, l = t.kids := ⟨_, rfl⟩
 rw [<- eK, <- ex, <- en, <- el] at er
 rw [<- eK, <- en]
 rw [<- ex] at hT
 rw [<- el] at hk
 obtain ⟨A, cap, rfl, _⟩ := id hk
 have HE := Lib.hid (M.bs_empty hT)
 have hn := hok.2.1
 have hsz := hok.2.2
 rw [<- en] at hn
 have S0 := Lib.hid (NB.start w K T n (.slice A l.length cap))
 have AL := Lib.hid fun w' (hb : Below w.heap.size w w') => rall9_any (c := 0) (p := M.numberB) l (fun i _ => is_0 (fun v w hv => risNumber_any (l.getD i M.Tree.no) v w hv)) (.slice A l.length cap) w' (hk.below hb)
 have HKK := Lib.hid hk
 clear hT hok hk eK ex en el hsz
 by_cases c0 : K = 11
 ·have gk : (K == 11) = true := by rw [beq_iff_eq]; exact c0
  have gk2 : (K != 11) = false := by rw [bne_eq_false_iff_eq]; exact c0
  have C0 := Lib.hid c0
  clear c0
  by_cases c1 : tx = []
  ·have gt : T.toList.isEmpty = true := by rw [HE.out, decide_eq_true c1]
   have C1 := Lib.hid c1
   clear c1
   by_cases c2 : l.length = 2
   ·have gl : ((l.length : Int) == 2) = true := by rw [beq_iff_eq]; omega
    have gl2 : ((l.length : Int) != 2) = false := by rw [bne_eq_false_iff_eq]; omega
    obtain ⟨ba, oa, Ta, Aa, ma, cca, rfl, al, a0, a1, a2, a3, av⟩ := HKK.out.at 0 (by omega)
    obtain ⟨ua, eua⟩ : ∃ u, u = l.getD 0 M.Tree.no := ⟨_, rfl⟩
    rw [<- eua] at a0 a2 av er
    obtain ⟨ka, eka⟩ : ∃ k, k = ua.kind := ⟨_, rfl⟩
    obtain ⟨na, ena⟩ : ∃ k, k = ua.num := ⟨_, rfl⟩
    rw [<- eka] at a0 av
    rw [<- ena] at a2 av er
    simp only [show 0 * 4 = 0 from rfl, Nat.add_zero] at a0 a1 a2 a3
    have hia : 0 < l.length := by omega
    have Va := Lib.hid av
    clear av eua eka ena
    obtain ⟨qa0, qa1, qa2, qa3⟩ := bel4 S0.out.below al a0 a1 a2 a3
    have C2 := Lib.hid c2
    clear c2
    by_cases c3 : l.all M.numberB = true
    ·rw [c3] at AL
     have C3 := Lib.hid c3
     clear c3
     by_cases c4 : n = 3
     ·have gn3 : ((n : Int) == 3) = true := by rw [beq_iff_eq]; omega
      have C4 := Lib.hid c4
      clear c4
      obtain rfl : r = true := by rw [er]; exact decide_eq_true ⟨⟨C0.out, C1.out, C2.out, C3.out⟩, .inl C4.out⟩
      clear er
      go_enter Tryz.func131, Tryz.ntmps131
      go_wp2_with fail
      (with_reducible refine (AL.out _ S0.out.below).mono ?_)
      rintro e w1 ⟨rfl, hb⟩
      have S1 := Lib.hid (S0.out.next hb)
      obtain ⟨-, -, y0, y1, y2, y3⟩ := id S1.out
      obtain ⟨qa0, qa1, qa2, qa3⟩ := bel4 S1.out.below al a0 a1 a2 a3
      clear hb
      go_wp2_with fail
      go_ret
      exact ⟨rfl, S1.out.below⟩
     ·have gn3 : ((n : Int) == 3) = false := by rw [beq_eq_false_iff_ne]; omega
      have C4 := Lib.hid c4
      clear c4
      by_cases c5 : n = 1
      ·have gn1 : ((n : Int) == 1) = true := by rw [beq_iff_eq]; omega
       have C5 := Lib.hid c5
       clear c5
       by_cases c6 : na = 0
       ·have gx : ((na : Int) == 0) = true := by rw [beq_iff_eq]; omega
        have C6 := Lib.hid c6
        clear c6
        obtain rfl : r = true := by rw [er]; exact decide_eq_true ⟨⟨C0.out, C1.out, C2.out, C3.out⟩, .inr ⟨.inl C5.out, C6.out⟩⟩
        clear er
        go_enter Tryz.func131, Tryz.ntmps131
        go_wp2_with fail
        (with_reducible refine (AL.out _ S0.out.below).mono ?_)
        rintro e w1 ⟨rfl, hb⟩
        have S1 := Lib.hid (S0.out.next hb)
        obtain ⟨-, -, y0, y1, y2, y3⟩ := id S1.out
        obtain ⟨qa0, qa1, qa2, qa3⟩ := bel4 S1.out.below al a0 a1 a2 a3
        clear hb
        go_wp2_with fail
        go_ret
        exact ⟨rfl, S1.out.below⟩
       ·have gx : ((na : Int) == 0) = false := by rw [beq_eq_false_iff_ne]; omega
        have C6 := Lib.hid c6
        clear c6
        obtain rfl : r = false := by rw [er]; exact decide_eq_false fun h => h.2.elim C4.out fun h => C6.out h.2
        clear er
        go_enter Tryz.func131, Tryz.ntmps131
        go_wp2_with fail
        (with_reducible refine (AL.out _ S0.out.below).mono ?_)
        rintro e w1 ⟨rfl, hb⟩
        have S1 := Lib.hid (S0.out.next hb)
        obtain ⟨-, -, y0, y1, y2, y3⟩ := id S1.out
        obtain ⟨qa0, qa1, qa2, qa3⟩ := bel4 S1.out.below al a0 a1 a2 a3
        clear hb
        go_wp2_with fail
        go_ret
        exact ⟨rfl, S1.out.below⟩
      ·have gn1 : ((n : Int) == 1) = false := by rw [beq_eq_false_iff_ne]; omega
       have C5 := Lib.hid c5
       clear c5
       by_cases c6 : n = 2
       ·have gn2 : ((n : Int) == 2) = true := by rw [beq_iff_eq]; omega
        have C6 := Lib.hid c6
        clear c6
        by_cases c7 : na = 0
        ·have gx : ((na : Int) == 0) = true := by rw [beq_iff_eq]; omega
         have C7 := Lib.hid c7
         clear c7
         obtain rfl : r = true := by rw [er]; exact decide_eq_true ⟨⟨C0.out, C1.out, C2.out, C3.out⟩, .inr ⟨.inr C6.out, C7.out⟩⟩
         clear er
         go_enter Tryz.func131, Tryz.ntmps131
         go_wp2_with fail
         (with_reducible refine (AL.out _ S0.out.below).mono ?_)
         rintro e w1 ⟨rfl, hb⟩
         have S1 := Lib.hid (S0.out.next hb)
         obtain ⟨-, -, y0, y1, y2, y3⟩ := id S1.out
         obtain ⟨qa0, qa1, qa2, qa3⟩ := bel4 S1.out.below al a0 a1 a2 a3
         clear hb
         go_wp2_with fail
         go_ret
         exact ⟨rfl, S1.out.below⟩
        ·have gx : ((na : Int) == 0) = false := by rw [beq_eq_false_iff_ne]; omega
         have C7 := Lib.hid c7
         clear c7
         obtain rfl : r = false := by rw [er]; exact decide_eq_false fun h => h.2.elim C4.out fun h => C7.out h.2
         clear er
         go_enter Tryz.func131, Tryz.ntmps131
         go_wp2_with fail
         (with_reducible refine (AL.out _ S0.out.below).mono ?_)
         rintro e w1 ⟨rfl, hb⟩
         have S1 := Lib.hid (S0.out.next hb)
         obtain ⟨-, -, y0, y1, y2, y3⟩ := id S1.out
         obtain ⟨qa0, qa1, qa2, qa3⟩ := bel4 S1.out.below al a0 a1 a2 a3
         clear hb
         go_wp2_with fail
         go_ret
         exact ⟨rfl, S1.out.below⟩
       ·have gn2 : ((n : Int) == 2) = false := by rw [beq_eq_false_iff_ne]; omega
        have C6 := Lib.hid c6
        clear c6
        obtain rfl : r = false := by rw [er]; exact decide_eq_false fun h => h.2.elim C4.out fun h => h.1.elim C5.out C6.out
        clear er
        go_enter Tryz.func131, Tryz.ntmps131
        go_wp2_with fail
        (with_reducible refine (AL.out _ S0.out.below).mono ?_)
        rintro e w1 ⟨rfl, hb⟩
        have S1 := Lib.hid (S0.out.next hb)
        obtain ⟨-, -, y0, y1, y2, y3⟩ := id S1.out
        obtain ⟨qa0, qa1, qa2, qa3⟩ := bel4 S1.out.below al a0 a1 a2 a3
        clear hb
        go_wp2_with fail
        go_ret
        exact ⟨rfl, S1.out.below⟩
    ·rw [Bool.eq_false_iff.2 c3] at AL
     have C3 := Lib.hid c3
     clear c3
     obtain rfl : r = false := by rw [er]; exact decide_eq_false fun h => C3.out h.1.2.2.2
     clear er
     go_enter Tryz.func131, Tryz.ntmps131
     go_wp2_with fail
     (with_reducible refine (AL.out _ S0.out.below).mono ?_)
     rintro e w1 ⟨rfl, hb⟩
     have S1 := Lib.hid (S0.out.next hb)
     obtain ⟨-, -, y0, y1, y2, y3⟩ := id S1.out
     obtain ⟨qa0, qa1, qa2, qa3⟩ := bel4 S1.out.below al a0 a1 a2 a3
     clear hb
     go_wp2_with fail
     go_ret
     exact ⟨rfl, S1.out.below⟩
   ·have gl : ((l.length : Int) == 2) = false := by rw [beq_eq_false_iff_ne]; omega
    have gl2 : ((l.length : Int) != 2) = true := by rw [bne_iff_ne]; omega
    have C2 := Lib.hid c2
    clear c2
    obtain rfl : r = false := by rw [er]; exact decide_eq_false fun h => C2.out h.1.2.2.1
    clear er
    go_enter Tryz.func131, Tryz.ntmps131
    go_wp2_with fail
    go_ret
    exact ⟨rfl, S0.out.below⟩
  ·have gt : T.toList.isEmpty = false := by rw [HE.out, decide_eq_false c1]
   have C1 := Lib.hid c1
   clear c1
   obtain rfl : r = false := by rw [er]; exact decide_eq_false fun h => C1.out h.1.2.1
   clear er
   go_enter Tryz.func131, Tryz.ntmps131
   go_wp2_with fail
   go_ret
   exact ⟨rfl, S0.out.below⟩
 ·have gk : (K == 11) = false := by rw [beq_eq_false_iff_ne]; exact c0
  have gk2 : (K != 11) = true := by rw [bne_iff_ne]; exact c0
  have C0 := Lib.hid c0
  clear c0
  obtain rfl : r = false := by rw [er]; exact decide_eq_false fun h => C0.out h.1.1
  clear er
  go_enter Tryz.func131, Tryz.ntmps131
  go_wp2_with fail
  go_ret
  exact ⟨rfl, S0.out.below⟩

theorem risArg_any (t : M.Tree) : FnC 87 M.argB t := by
 intro v w hv
 have hud := hud9
 obtain ⟨T, kv, rfl, hT, hok, hk⟩ := hv
 obtain ⟨r, er⟩ : ∃ r, r = M.argB t := ⟨_, rfl⟩
 rw [<- er]
 unfold M.argB at er
 obtain ⟨K, eK⟩ : ∃ K, K = t.kind := ⟨_, rfl⟩
 obtain ⟨tx, ex⟩ : ∃ x, x = t.text := ⟨_, rfl⟩
 obtain ⟨n, en⟩ : ∃ n, n = t.num := ⟨_, rfl⟩
 obtain ⟨l, el⟩ : ∃ l, l = t.kids := ⟨_, rfl⟩
 rw [<- eK, <- ex, <- en, <- el] at er
 rw [<- eK, <- en]
 rw [<- ex] at hT
 rw [<- el] at hk
 obtain ⟨A, cap, rfl, _⟩ := id hk
 have HE := Lib.hid (M.bs_empty hT)
 have hn := hok.2.1
 have hsz := hok.2.2
 rw [<- en] at hn
 have S0 := Lib.hid (NB.start w K T n (.slice A l.length cap))
 have NM := Lib.hid fun w' (_ : Below w.heap.size w w') => rname9_any T w' hsz
 rw [hT] at NM
 have HKK := Lib.hid hk
 clear hT hok hk eK ex en el hsz
 by_cases c0 : K = 13
 ·have gk : (K == 13) = true := by rw [beq_iff_eq]; exact c0
  have gk2 : (K != 13) = false := by rw [bne_eq_false_iff_eq]; exact c0
  have C0 := Lib.hid c0
  clear c0
  by_cases c1 : M.nameOk tx = true
  ·rw [c1] at NM
   have C1 := Lib.hid c1
   clear c1
   by_cases c2 : n = 0
   ·have gn0 : ((n : Int) == 0) = true := by rw [beq_iff_eq]; omega
    have C2 := Lib.hid c2
    clear c2
    by_cases c3 : l.length = 1
    ·have gl : ((l.length : Int) == 1) = true := by rw [beq_iff_eq]; omega
     have gl2 : ((l.length : Int) != 1) = false := by rw [bne_eq_false_iff_eq]; omega
     obtain ⟨ba, oa, Ta, Aa, ma, cca, rfl, al, a0, a1, a2, a3, av⟩ := HKK.out.at 0 (by omega)
     obtain ⟨ua, eua⟩ : ∃ u, u = l.getD 0 M.Tree.no := ⟨_, rfl⟩
     rw [<- eua] at a0 a2 av er
     obtain ⟨ka, eka⟩ : ∃ k, k = ua.kind := ⟨_, rfl⟩
     obtain ⟨na, ena⟩ : ∃ k, k = ua.num := ⟨_, rfl⟩
     rw [<- eka] at a0 av
     rw [<- ena] at a2 av
     simp only [show 0 * 4 = 0 from rfl, Nat.add_zero] at a0 a1 a2 a3
     have hia : 0 < l.length := by omega
     have Va := Lib.hid av
     have TY := Lib.hid fun w' (hb : Below w.heap.size w w') => risType_any ua _ w' (Va.out.below hb)
     clear av eua eka ena
     obtain ⟨qa0, qa1, qa2, qa3⟩ := bel4 S0.out.below al a0 a1 a2 a3
     have C3 := Lib.hid c3
     clear c3
     by_cases c4 : M.typeB ua = true
     ·rw [c4] at TY
      have C4 := Lib.hid c4
      clear c4
      obtain rfl : r = true := by rw [er]; exact decide_eq_true ⟨C0.out, C1.out, C2.out, C3.out, C4.out⟩
      clear er
      go_enter Tryz.func87, Tryz.ntmps87
      go_wp2_with fail
      (with_reducible refine (NM.out _ S0.out.below).mono ?_)
      rintro e w1 ⟨rfl, hb⟩
      have S1 := Lib.hid (S0.out.next hb)
      obtain ⟨-, -, y0, y1, y2, y3⟩ := id S1.out
      obtain ⟨qa0, qa1, qa2, qa3⟩ := bel4 S1.out.below al a0 a1 a2 a3
      clear hb
      go_wp2_with fail
      (with_reducible refine (TY.out _ S1.out.below).mono ?_)
      rintro e w2 ⟨rfl, hb⟩
      have S2 := Lib.hid (S1.out.next hb)
      obtain ⟨-, -, y0, y1, y2, y3⟩ := id S2.out
      obtain ⟨qa0, qa1, qa2, qa3⟩ := bel4 S2.out.below al a0 a1 a2 a3
      clear hb
      go_wp2_with fail
      go_ret
      exact ⟨rfl, S2.out.below⟩
     ·rw [Bool.eq_false_iff.2 c4] at TY
      have C4 := Lib.hid c4
      clear c4
      obtain rfl : r = false := by rw [er]; exact decide_eq_false fun h => C4.out h.2.2.2.2
      clear er
      go_enter Tryz.func87, Tryz.ntmps87
      go_wp2_with fail
      (with_reducible refine (NM.out _ S0.out.below).mono ?_)
      rintro e w1 ⟨rfl, hb⟩
      have S1 := Lib.hid (S0.out.next hb)
      obtain ⟨-, -, y0, y1, y2, y3⟩ := id S1.out
      obtain ⟨qa0, qa1, qa2, qa3⟩ := bel4 S1.out.below al a0 a1 a2 a3
      clear hb
      go_wp2_with fail
      (with_reducible refine (TY.out _ S1.out.below).mono ?_)
      rintro e w2 ⟨rfl, hb⟩
      have S2 := Lib.hid (S1.out.next hb)
      obtain ⟨-, -, y0, y1, y2, y3⟩ := id S2.out
      obtain ⟨qa0, qa1, qa2, qa3⟩ := bel4 S2.out.below al a0 a1 a2 a3
      clear hb
      go_wp2_with fail
      go_ret
      exact ⟨rfl, S2.out.below⟩
    ·have gl : ((l.length : Int) == 1) = false := by rw [beq_eq_false_iff_ne]; omega
     have gl2 : ((l.length : Int) != 1) = true := by rw [bne_iff_ne]; omega
     have C3 := Lib.hid c3
     clear c3
     obtain rfl : r = false := by rw [er]; exact decide_eq_false fun h => C3.out h.2.2.2.1
     clear er
     go_enter Tryz.func87, Tryz.ntmps87
     go_wp2_with fail
     (with_reducible refine (NM.out _ S0.out.below).mono ?_)
     rintro e w1 ⟨rfl, hb⟩
     have S1 := Lib.hid (S0.out.next hb)
     obtain ⟨-, -, y0, y1, y2, y3⟩ := id S1.out
     clear hb
     go_wp2_with fail
     go_ret
     exact ⟨rfl, S1.out.below⟩
   ·have gn0 : ((n : Int) == 0) = false := by rw [beq_eq_false_iff_ne]; omega
    have C2 := Lib.hid c2
    clear c2
    obtain rfl : r = false := by rw [er]; exact decide_eq_false fun h => C2.out h.2.2.1
    clear er
    go_enter Tryz.func87, Tryz.ntmps87
    go_wp2_with fail
    (with_reducible refine (NM.out _ S0.out.below).mono ?_)
    rintro e w1 ⟨rfl, hb⟩
    have S1 := Lib.hid (S0.out.next hb)
    obtain ⟨-, -, y0, y1, y2, y3⟩ := id S1.out
    clear hb
    go_wp2_with fail
    go_ret
    exact ⟨rfl, S1.out.below⟩
  ·rw [Bool.eq_false_iff.2 c1] at NM
   have C1 := Lib.hid c1
   clear c1
   obtain rfl : r = false := by rw [er]; exact decide_eq_false fun h => C1.out h.2.1
   clear er
   go_enter Tryz.func87, Tryz.ntmps87
   go_wp2_with fail
   (with_reducible refine (NM.out _ S0.out.below).mono ?_)
   rintro e w1 ⟨rfl, hb⟩
   have S1 := Lib.hid (S0.out.next hb)
   obtain ⟨-, -, y0, y1, y2, y3⟩ := id S1.out
   clear hb
   go_wp2_with fail
   go_ret
   exact ⟨rfl, S1.out.below⟩
 ·have gk : (K == 13) = false := by rw [beq_eq_false_iff_ne]; exact c0
  have gk2 : (K != 13) = true := by rw [bne_iff_ne]; exact c0
  have C0 := Lib.hid c0
  clear c0
  obtain rfl : r = false := by rw [er]; exact decide_eq_false fun h => C0.out h.1
  clear er
  go_enter Tryz.func87, Tryz.ntmps87
  go_wp2_with fail
  go_ret
  exact ⟨rfl, S0.out.below⟩
theorem txt_pos {T : ByteArray} {tx : List Nat} (h : M.bs T = tx) (x : List UInt8) (hx : tx = x.map UInt8.toNat) : T.toList = x := by
 rw [ByteArray.toList_eq]
 refine (List.map_inj_right (fun a b h => UInt8.toNat_inj.1 h)).1 ?_
 show M.bs T = _
 rw [h, hx]
theorem txt_neg {T : ByteArray} {tx : List Nat} (h : M.bs T = tx) (x : List UInt8) (hx : ¬ tx = x.map UInt8.toNat) : ¬ T.toList = x := by
 intro e
 refine hx ?_
 rw [<- h, <- e, ByteArray.toList_eq]
 rfl

theorem isExpr_14 (t : M.Tree) (f : Nat) (hp : ∀ u, u ∈ t.kids -> FnC 91 (M.exprF f) u) (hkind : t.kind = 14) : FnC 91 (M.exprF (f + 1)) t := by
 intro v w hv
 have hv0 := hv
 have hud := hud9
 obtain ⟨T, kv, rfl, hT, hok, hk⟩ := hv
 obtain ⟨r, er⟩ : ∃ r, r = (M.exprF (f + 1)) t := ⟨_, rfl⟩
 rw [<- er]
 rw [M.exprF, if_pos hkind] at er
 obtain ⟨K, eK⟩ : ∃ K, K = t.kind := ⟨_, rfl⟩
 obtain ⟨tx, ex⟩ : ∃ x, x = t.text := ⟨_, rfl⟩
 obtain ⟨n, en⟩ : ∃ n, n = t.num := ⟨_, rfl⟩
 obtain ⟨l, el⟩ : ∃ l, l = t.kids := ⟨_, rfl⟩
 try rw [<- eK] at er
 try rw [<- ex] at er
 try rw [<- en] at er
 try rw [<- el] at er
 rw [<- eK, <- en] at hv0 ⊢
 rw [<- ex] at hT
 rw [<- el] at hk
 obtain ⟨A, cap, rfl, _⟩ := id hk
 have HE := Lib.hid (M.bs_empty hT)
 have HTX := Lib.hid hT
 have hn := hok.2.1
 have hsz := hok.2.2
 rw [<- en] at hn
 have S0 := Lib.hid (NB.start w K T n (.slice A l.length cap))
 have hK : K = 14 := eK.trans hkind
 have gk14 : (K == 14) = true := by rw [beq_iff_eq]; omega
 have NU := Lib.hid fun w' (hb : Below w.heap.size w w') => risNumber_any t _ w' (hv0.below hb)
 clear hK hp
 have HKK := Lib.hid hk
 clear hT hok hk eK ex en el hsz hv0
 by_cases c0 : M.numberB t = true
 ·rw [c0] at NU
  have C0 := Lib.hid c0
  clear c0
  obtain rfl : r = true := by rw [er]; exact C0.out
  clear er
  go_enter Tryz.func91, Tryz.ntmps91
  go_wp2_with fail
  (with_reducible refine (NU.out _ S0.out.below).mono ?_)
  rintro e w1 ⟨rfl, hb⟩
  have S1 := Lib.hid (S0.out.next hb)
  obtain ⟨-, -, y0, y1, y2, y3⟩ := id S1.out
  clear hb
  go_wp2_with fail
  go_ret
  exact ⟨rfl, S1.out.below⟩
 ·rw [Bool.eq_false_iff.2 c0] at NU
  have C0 := Lib.hid c0
  clear c0
  obtain rfl : r = false := by rw [er]; exact Bool.eq_false_iff.2 C0.out
  clear er
  go_enter Tryz.func91, Tryz.ntmps91
  go_wp2_with fail
  (with_reducible refine (NU.out _ S0.out.below).mono ?_)
  rintro e w1 ⟨rfl, hb⟩
  have S1 := Lib.hid (S0.out.next hb)
  obtain ⟨-, -, y0, y1, y2, y3⟩ := id S1.out
  clear hb
  go_wp2_with fail
  go_ret
  exact ⟨rfl, S1.out.below⟩

theorem isExpr_15 (t : M.Tree) (f : Nat) (hp : ∀ u, u ∈ t.kids -> FnC 91 (M.exprF f) u) (hkind : t.kind = 15) : FnC 91 (M.exprF (f + 1)) t := by
 intro v w hv
 have hv0 := hv
 have hud := hud9
 obtain ⟨T, kv, rfl, hT, hok, hk⟩ := hv
 obtain ⟨r, er⟩ : ∃ r, r = (M.exprF (f + 1)) t := ⟨_, rfl⟩
 rw [<- er]
 rw [M.exprF, if_neg (show ¬ t.kind = 14 by omega), if_pos hkind] at er
 obtain ⟨K, eK⟩ : ∃ K, K = t.kind := ⟨_, rfl⟩
 obtain ⟨tx, ex⟩ : ∃ x, x = t.text := ⟨_, rfl⟩
 obtain ⟨n, en⟩ : ∃ n, n = t.num := ⟨_, rfl⟩
 obtain ⟨l, el⟩ : ∃ l, l = t.kids := ⟨_, rfl⟩
 try rw [<- eK] at er
 try rw [<- ex] at er
 try rw [<- en] at er
 try rw [<- el] at er
 rw [<- eK, <- en] at hv0 ⊢
 rw [<- ex] at hT
 rw [<- el] at hk
 obtain ⟨A, cap, rfl, _⟩ := id hk
 have HE := Lib.hid (M.bs_empty hT)
 have HTX := Lib.hid hT
 have hn := hok.2.1
 have hsz := hok.2.2
 rw [<- en] at hn
 have S0 := Lib.hid (NB.start w K T n (.slice A l.length cap))
 have hK : K = 15 := eK.trans hkind
 have gk14 : (K == 14) = false := by rw [beq_eq_false_iff_ne]; omega
 have gk15 : (K == 15) = true := by rw [beq_iff_eq]; omega
 have NM := Lib.hid fun w' (_ : Below w.heap.size w w') => rname9_any T w' hsz
 rw [hT] at NM
 clear hK hp
 have HKK := Lib.hid hk
 clear hT hok hk eK ex en el hsz hv0
 by_cases c0 : M.nameOk tx = true
 ·rw [c0] at NM
  have C0 := Lib.hid c0
  clear c0
  by_cases c1 : n = 0
  ·have gn0 : ((n : Int) == 0) = true := by rw [beq_iff_eq]; omega
   have C1 := Lib.hid c1
   clear c1
   by_cases c2 : l.length = 0
   ·have gl : ((l.length : Int) == 0) = true := by rw [beq_iff_eq]; omega
    have C2 := Lib.hid c2
    clear c2
    obtain rfl : r = true := by rw [er]; exact decide_eq_true ⟨C0.out, C1.out, C2.out⟩
    clear er
    go_enter Tryz.func91, Tryz.ntmps91
    go_wp2_with fail
    (with_reducible refine (NM.out _ S0.out.below).mono ?_)
    rintro e w1 ⟨rfl, hb⟩
    have S1 := Lib.hid (S0.out.next hb)
    obtain ⟨-, -, y0, y1, y2, y3⟩ := id S1.out
    clear hb
    go_wp2_with fail
    go_ret
    exact ⟨rfl, S1.out.below⟩
   ·have gl : ((l.length : Int) == 0) = false := by rw [beq_eq_false_iff_ne]; omega
    have C2 := Lib.hid c2
    clear c2
    obtain rfl : r = false := by rw [er]; exact decide_eq_false (fun h => C2.out h.2.2)
    clear er
    go_enter Tryz.func91, Tryz.ntmps91
    go_wp2_with fail
    (with_reducible refine (NM.out _ S0.out.below).mono ?_)
    rintro e w1 ⟨rfl, hb⟩
    have S1 := Lib.hid (S0.out.next hb)
    obtain ⟨-, -, y0, y1, y2, y3⟩ := id S1.out
    clear hb
    go_wp2_with fail
    go_ret
    exact ⟨rfl, S1.out.below⟩
  ·have gn0 : ((n : Int) == 0) = false := by rw [beq_eq_false_iff_ne]; omega
   have C1 := Lib.hid c1
   clear c1
   obtain rfl : r = false := by rw [er]; exact decide_eq_false (fun h => C1.out h.2.1)
   clear er
   go_enter Tryz.func91, Tryz.ntmps91
   go_wp2_with fail
   (with_reducible refine (NM.out _ S0.out.below).mono ?_)
   rintro e w1 ⟨rfl, hb⟩
   have S1 := Lib.hid (S0.out.next hb)
   obtain ⟨-, -, y0, y1, y2, y3⟩ := id S1.out
   clear hb
   go_wp2_with fail
   go_ret
   exact ⟨rfl, S1.out.below⟩
 ·rw [Bool.eq_false_iff.2 c0] at NM
  have C0 := Lib.hid c0
  clear c0
  obtain rfl : r = false := by rw [er]; exact decide_eq_false (fun h => C0.out h.1)
  clear er
  go_enter Tryz.func91, Tryz.ntmps91
  go_wp2_with fail
  (with_reducible refine (NM.out _ S0.out.below).mono ?_)
  rintro e w1 ⟨rfl, hb⟩
  have S1 := Lib.hid (S0.out.next hb)
  obtain ⟨-, -, y0, y1, y2, y3⟩ := id S1.out
  clear hb
  go_wp2_with fail
  go_ret
  exact ⟨rfl, S1.out.below⟩

theorem isExpr_16 (t : M.Tree) (f : Nat) (hp : ∀ u, u ∈ t.kids -> FnC 91 (M.exprF f) u) (hkind : t.kind = 16) : FnC 91 (M.exprF (f + 1)) t := by
 intro v w hv
 have hv0 := hv
 have hud := hud9
 obtain ⟨T, kv, rfl, hT, hok, hk⟩ := hv
 obtain ⟨r, er⟩ : ∃ r, r = (M.exprF (f + 1)) t := ⟨_, rfl⟩
 rw [<- er]
 rw [M.exprF, if_neg (show ¬ t.kind = 14 by omega), if_neg (show ¬ t.kind = 15 by omega), if_pos hkind] at er
 obtain ⟨K, eK⟩ : ∃ K, K = t.kind := ⟨_, rfl⟩
 obtain ⟨tx, ex⟩ : ∃ x, x = t.text := ⟨_, rfl⟩
 obtain ⟨n, en⟩ : ∃ n, n = t.num := ⟨_, rfl⟩
 obtain ⟨l, el⟩ : ∃ l, l = t.kids := ⟨_, rfl⟩
 try rw [<- eK] at er
 try rw [<- ex] at er
 try rw [<- en] at er
 try rw [<- el] at er
 rw [<- eK, <- en] at hv0 ⊢
 rw [<- ex] at hT
 rw [<- el] at hk
 obtain ⟨A, cap, rfl, _⟩ := id hk
 have HE := Lib.hid (M.bs_empty hT)
 have HTX := Lib.hid hT
 have hn := hok.2.1
 have hsz := hok.2.2
 rw [<- en] at hn
 have S0 := Lib.hid (NB.start w K T n (.slice A l.length cap))
 have hK : K = 16 := eK.trans hkind
 have gk14 : (K == 14) = false := by rw [beq_eq_false_iff_ne]; omega
 have gk15 : (K == 15) = false := by rw [beq_eq_false_iff_ne]; omega
 have gk16 : (K == 16) = true := by rw [beq_iff_eq]; omega
 have NM := Lib.hid fun w' (_ : Below w.heap.size w w') => rname9_any T w' hsz
 rw [hT] at NM
 have AL := Lib.hid fun w' (hb : Below w.heap.size w w') => rall9_any (c := 5) (p := M.exprF f) l (fun i hi => is_5 (hp (l.getD i M.Tree.no) (by rw [el, List.getD_eq_getElem?_getD, List.getElem?_eq_getElem (by rw [<- el]; exact hi)]; exact List.getElem_mem _))) (.slice A l.length cap) w' (hk.below hb)
 clear hK hp
 have HKK := Lib.hid hk
 clear hT hok hk eK ex en el hsz hv0
 by_cases c0 : M.nameOk tx = true
 ·rw [c0] at NM
  have C0 := Lib.hid c0
  clear c0
  by_cases c1 : n = 0
  ·have gn0 : ((n : Int) == 0) = true := by rw [beq_iff_eq]; omega
   have C1 := Lib.hid c1
   clear c1
   by_cases c2 : l.all (M.exprF f) = true
   ·rw [c2] at AL
    have C2 := Lib.hid c2
    clear c2
    obtain rfl : r = true := by rw [er]; exact decide_eq_true ⟨(Or.inl C0.out), C1.out, C2.out⟩
    clear er
    go_enter Tryz.func91, Tryz.ntmps91
    go_wp2_with fail
    (with_reducible refine (NM.out _ S0.out.below).mono ?_)
    rintro e w1 ⟨rfl, hb⟩
    have S1 := Lib.hid (S0.out.next hb)
    obtain ⟨-, -, y0, y1, y2, y3⟩ := id S1.out
    clear hb
    go_wp2_with fail
    (with_reducible refine (AL.out _ S1.out.below).mono ?_)
    rintro e w2 ⟨rfl, hb⟩
    have S2 := Lib.hid (S1.out.next hb)
    obtain ⟨-, -, y0, y1, y2, y3⟩ := id S2.out
    clear hb
    go_wp2_with fail
    go_ret
    exact ⟨rfl, S2.out.below⟩
   ·rw [Bool.eq_false_iff.2 c2] at AL
    have C2 := Lib.hid c2
    clear c2
    obtain rfl : r = false := by rw [er]; exact decide_eq_false (fun h => C2.out h.2.2)
    clear er
    go_enter Tryz.func91, Tryz.ntmps91
    go_wp2_with fail
    (with_reducible refine (NM.out _ S0.out.below).mono ?_)
    rintro e w1 ⟨rfl, hb⟩
    have S1 := Lib.hid (S0.out.next hb)
    obtain ⟨-, -, y0, y1, y2, y3⟩ := id S1.out
    clear hb
    go_wp2_with fail
    (with_reducible refine (AL.out _ S1.out.below).mono ?_)
    rintro e w2 ⟨rfl, hb⟩
    have S2 := Lib.hid (S1.out.next hb)
    obtain ⟨-, -, y0, y1, y2, y3⟩ := id S2.out
    clear hb
    go_wp2_with fail
    go_ret
    exact ⟨rfl, S2.out.below⟩
  ·have gn0 : ((n : Int) == 0) = false := by rw [beq_eq_false_iff_ne]; omega
   have C1 := Lib.hid c1
   clear c1
   obtain rfl : r = false := by rw [er]; exact decide_eq_false (fun h => C1.out h.2.1)
   clear er
   go_enter Tryz.func91, Tryz.ntmps91
   go_wp2_with fail
   (with_reducible refine (NM.out _ S0.out.below).mono ?_)
   rintro e w1 ⟨rfl, hb⟩
   have S1 := Lib.hid (S0.out.next hb)
   obtain ⟨-, -, y0, y1, y2, y3⟩ := id S1.out
   clear hb
   go_wp2_with fail
   go_ret
   exact ⟨rfl, S1.out.below⟩
 ·rw [Bool.eq_false_iff.2 c0] at NM
  have C0 := Lib.hid c0
  clear c0
  by_cases c1 : tx = [110, 117, 109]
  ·have gs : T.toList = [110, 117, 109] := txt_pos HTX.out [110, 117, 109] c1
   have C1 := Lib.hid c1
   clear c1
   by_cases c2 : n = 0
   ·have gn0 : ((n : Int) == 0) = true := by rw [beq_iff_eq]; omega
    have C2 := Lib.hid c2
    clear c2
    by_cases c3 : l.all (M.exprF f) = true
    ·rw [c3] at AL
     have C3 := Lib.hid c3
     clear c3
     obtain rfl : r = true := by rw [er]; exact decide_eq_true ⟨(Or.inr (Or.inl C1.out)), C2.out, C3.out⟩
     clear er
     go_enter Tryz.func91, Tryz.ntmps91
     go_wp2_with fail
     (with_reducible refine (NM.out _ S0.out.below).mono ?_)
     rintro e w1 ⟨rfl, hb⟩
     have S1 := Lib.hid (S0.out.next hb)
     obtain ⟨-, -, y0, y1, y2, y3⟩ := id S1.out
     clear hb
     go_wp2_with fail
     (with_reducible refine (AL.out _ S1.out.below).mono ?_)
     rintro e w2 ⟨rfl, hb⟩
     have S2 := Lib.hid (S1.out.next hb)
     obtain ⟨-, -, y0, y1, y2, y3⟩ := id S2.out
     clear hb
     go_wp2_with fail
     go_ret
     exact ⟨rfl, S2.out.below⟩
    ·rw [Bool.eq_false_iff.2 c3] at AL
     have C3 := Lib.hid c3
     clear c3
     obtain rfl : r = false := by rw [er]; exact decide_eq_false (fun h => C3.out h.2.2)
     clear er
     go_enter Tryz.func91, Tryz.ntmps91
     go_wp2_with fail
     (with_reducible refine (NM.out _ S0.out.below).mono ?_)
     rintro e w1 ⟨rfl, hb⟩
     have S1 := Lib.hid (S0.out.next hb)
     obtain ⟨-, -, y0, y1, y2, y3⟩ := id S1.out
     clear hb
     go_wp2_with fail
     (with_reducible refine (AL.out _ S1.out.below).mono ?_)
     rintro e w2 ⟨rfl, hb⟩
     have S2 := Lib.hid (S1.out.next hb)
     obtain ⟨-, -, y0, y1, y2, y3⟩ := id S2.out
     clear hb
     go_wp2_with fail
     go_ret
     exact ⟨rfl, S2.out.below⟩
   ·have gn0 : ((n : Int) == 0) = false := by rw [beq_eq_false_iff_ne]; omega
    have C2 := Lib.hid c2
    clear c2
    obtain rfl : r = false := by rw [er]; exact decide_eq_false (fun h => C2.out h.2.1)
    clear er
    go_enter Tryz.func91, Tryz.ntmps91
    go_wp2_with fail
    (with_reducible refine (NM.out _ S0.out.below).mono ?_)
    rintro e w1 ⟨rfl, hb⟩
    have S1 := Lib.hid (S0.out.next hb)
    obtain ⟨-, -, y0, y1, y2, y3⟩ := id S1.out
    clear hb
    go_wp2_with fail
    go_ret
    exact ⟨rfl, S1.out.below⟩
  ·have gs110 : ¬ T.toList = [110, 117, 109] := txt_neg HTX.out [110, 117, 109] c1
   have C1 := Lib.hid c1
   clear c1
   by_cases c2 : tx = [98, 105, 116]
   ·have gs : T.toList = [98, 105, 116] := txt_pos HTX.out [98, 105, 116] c2
    have C2 := Lib.hid c2
    clear c2
    by_cases c3 : n = 0
    ·have gn0 : ((n : Int) == 0) = true := by rw [beq_iff_eq]; omega
     have C3 := Lib.hid c3
     clear c3
     by_cases c4 : l.all (M.exprF f) = true
     ·rw [c4] at AL
      have C4 := Lib.hid c4
      clear c4
      obtain rfl : r = true := by rw [er]; exact decide_eq_true ⟨(Or.inr (Or.inr (Or.inl C2.out))), C3.out, C4.out⟩
      clear er
      go_enter Tryz.func91, Tryz.ntmps91
      go_wp2_with fail
      (with_reducible refine (NM.out _ S0.out.below).mono ?_)
      rintro e w1 ⟨rfl, hb⟩
      have S1 := Lib.hid (S0.out.next hb)
      obtain ⟨-, -, y0, y1, y2, y3⟩ := id S1.out
      clear hb
      go_wp2_with fail
      (with_reducible refine (AL.out _ S1.out.below).mono ?_)
      rintro e w2 ⟨rfl, hb⟩
      have S2 := Lib.hid (S1.out.next hb)
      obtain ⟨-, -, y0, y1, y2, y3⟩ := id S2.out
      clear hb
      go_wp2_with fail
      go_ret
      exact ⟨rfl, S2.out.below⟩
     ·rw [Bool.eq_false_iff.2 c4] at AL
      have C4 := Lib.hid c4
      clear c4
      obtain rfl : r = false := by rw [er]; exact decide_eq_false (fun h => C4.out h.2.2)
      clear er
      go_enter Tryz.func91, Tryz.ntmps91
      go_wp2_with fail
      (with_reducible refine (NM.out _ S0.out.below).mono ?_)
      rintro e w1 ⟨rfl, hb⟩
      have S1 := Lib.hid (S0.out.next hb)
      obtain ⟨-, -, y0, y1, y2, y3⟩ := id S1.out
      clear hb
      go_wp2_with fail
      (with_reducible refine (AL.out _ S1.out.below).mono ?_)
      rintro e w2 ⟨rfl, hb⟩
      have S2 := Lib.hid (S1.out.next hb)
      obtain ⟨-, -, y0, y1, y2, y3⟩ := id S2.out
      clear hb
      go_wp2_with fail
      go_ret
      exact ⟨rfl, S2.out.below⟩
    ·have gn0 : ((n : Int) == 0) = false := by rw [beq_eq_false_iff_ne]; omega
     have C3 := Lib.hid c3
     clear c3
     obtain rfl : r = false := by rw [er]; exact decide_eq_false (fun h => C3.out h.2.1)
     clear er
     go_enter Tryz.func91, Tryz.ntmps91
     go_wp2_with fail
     (with_reducible refine (NM.out _ S0.out.below).mono ?_)
     rintro e w1 ⟨rfl, hb⟩
     have S1 := Lib.hid (S0.out.next hb)
     obtain ⟨-, -, y0, y1, y2, y3⟩ := id S1.out
     clear hb
     go_wp2_with fail
     go_ret
     exact ⟨rfl, S1.out.below⟩
   ·have gs98 : ¬ T.toList = [98, 105, 116] := txt_neg HTX.out [98, 105, 116] c2
    have C2 := Lib.hid c2
    clear c2
    by_cases c3 : tx = [119, 111, 114, 100]
    ·have gs : T.toList = [119, 111, 114, 100] := txt_pos HTX.out [119, 111, 114, 100] c3
     have C3 := Lib.hid c3
     clear c3
     by_cases c4 : n = 0
     ·have gn0 : ((n : Int) == 0) = true := by rw [beq_iff_eq]; omega
      have C4 := Lib.hid c4
      clear c4
      by_cases c5 : l.all (M.exprF f) = true
      ·rw [c5] at AL
       have C5 := Lib.hid c5
       clear c5
       obtain rfl : r = true := by rw [er]; exact decide_eq_true ⟨(Or.inr (Or.inr (Or.inr C3.out))), C4.out, C5.out⟩
       clear er
       go_enter Tryz.func91, Tryz.ntmps91
       go_wp2_with fail
       (with_reducible refine (NM.out _ S0.out.below).mono ?_)
       rintro e w1 ⟨rfl, hb⟩
       have S1 := Lib.hid (S0.out.next hb)
       obtain ⟨-, -, y0, y1, y2, y3⟩ := id S1.out
       clear hb
       go_wp2_with fail
       (with_reducible refine (AL.out _ S1.out.below).mono ?_)
       rintro e w2 ⟨rfl, hb⟩
       have S2 := Lib.hid (S1.out.next hb)
       obtain ⟨-, -, y0, y1, y2, y3⟩ := id S2.out
       clear hb
       go_wp2_with fail
       go_ret
       exact ⟨rfl, S2.out.below⟩
      ·rw [Bool.eq_false_iff.2 c5] at AL
       have C5 := Lib.hid c5
       clear c5
       obtain rfl : r = false := by rw [er]; exact decide_eq_false (fun h => C5.out h.2.2)
       clear er
       go_enter Tryz.func91, Tryz.ntmps91
       go_wp2_with fail
       (with_reducible refine (NM.out _ S0.out.below).mono ?_)
       rintro e w1 ⟨rfl, hb⟩
       have S1 := Lib.hid (S0.out.next hb)
       obtain ⟨-, -, y0, y1, y2, y3⟩ := id S1.out
       clear hb
       go_wp2_with fail
       (with_reducible refine (AL.out _ S1.out.below).mono ?_)
       rintro e w2 ⟨rfl, hb⟩
       have S2 := Lib.hid (S1.out.next hb)
       obtain ⟨-, -, y0, y1, y2, y3⟩ := id S2.out
       clear hb
       go_wp2_with fail
       go_ret
       exact ⟨rfl, S2.out.below⟩
     ·have gn0 : ((n : Int) == 0) = false := by rw [beq_eq_false_iff_ne]; omega
      have C4 := Lib.hid c4
      clear c4
      obtain rfl : r = false := by rw [er]; exact decide_eq_false (fun h => C4.out h.2.1)
      clear er
      go_enter Tryz.func91, Tryz.ntmps91
      go_wp2_with fail
      (with_reducible refine (NM.out _ S0.out.below).mono ?_)
      rintro e w1 ⟨rfl, hb⟩
      have S1 := Lib.hid (S0.out.next hb)
      obtain ⟨-, -, y0, y1, y2, y3⟩ := id S1.out
      clear hb
      go_wp2_with fail
      go_ret
      exact ⟨rfl, S1.out.below⟩
    ·have gs119 : ¬ T.toList = [119, 111, 114, 100] := txt_neg HTX.out [119, 111, 114, 100] c3
     have C3 := Lib.hid c3
     clear c3
     obtain rfl : r = false := by rw [er]; exact decide_eq_false (fun h => (fun h => Or.elim h C0.out (fun h => Or.elim h C1.out (fun h => Or.elim h C2.out C3.out))) h.1)
     clear er
     go_enter Tryz.func91, Tryz.ntmps91
     go_wp2_with fail
     (with_reducible refine (NM.out _ S0.out.below).mono ?_)
     rintro e w1 ⟨rfl, hb⟩
     have S1 := Lib.hid (S0.out.next hb)
     obtain ⟨-, -, y0, y1, y2, y3⟩ := id S1.out
     clear hb
     go_wp2_with fail
     go_ret
     exact ⟨rfl, S1.out.below⟩

theorem isExpr_17 (t : M.Tree) (f : Nat) (hp : ∀ u, u ∈ t.kids -> FnC 91 (M.exprF f) u) (hkind : t.kind = 17) : FnC 91 (M.exprF (f + 1)) t := by
 intro v w hv
 have hv0 := hv
 have hud := hud9
 obtain ⟨T, kv, rfl, hT, hok, hk⟩ := hv
 obtain ⟨r, er⟩ : ∃ r, r = (M.exprF (f + 1)) t := ⟨_, rfl⟩
 rw [<- er]
 rw [M.exprF, if_neg (show ¬ t.kind = 14 by omega), if_neg (show ¬ t.kind = 15 by omega), if_neg (show ¬ t.kind = 16 by omega), if_pos hkind] at er
 obtain ⟨K, eK⟩ : ∃ K, K = t.kind := ⟨_, rfl⟩
 obtain ⟨tx, ex⟩ : ∃ x, x = t.text := ⟨_, rfl⟩
 obtain ⟨n, en⟩ : ∃ n, n = t.num := ⟨_, rfl⟩
 obtain ⟨l, el⟩ : ∃ l, l = t.kids := ⟨_, rfl⟩
 try rw [<- eK] at er
 try rw [<- ex] at er
 try rw [<- en] at er
 try rw [<- el] at er
 rw [<- eK, <- en] at hv0 ⊢
 rw [<- ex] at hT
 rw [<- el] at hk
 obtain ⟨A, cap, rfl, _⟩ := id hk
 have HE := Lib.hid (M.bs_empty hT)
 have HTX := Lib.hid hT
 have hn := hok.2.1
 have hsz := hok.2.2
 rw [<- en] at hn
 have S0 := Lib.hid (NB.start w K T n (.slice A l.length cap))
 have hK : K = 17 := eK.trans hkind
 have gk14 : (K == 14) = false := by rw [beq_eq_false_iff_ne]; omega
 have gk15 : (K == 15) = false := by rw [beq_eq_false_iff_ne]; omega
 have gk16 : (K == 16) = false := by rw [beq_eq_false_iff_ne]; omega
 have gk17 : (K == 17) = true := by rw [beq_iff_eq]; omega
 have AL := Lib.hid fun w' (hb : Below w.heap.size w w') => rall9_any (c := 5) (p := M.exprF f) l (fun i hi => is_5 (hp (l.getD i M.Tree.no) (by rw [el, List.getD_eq_getElem?_getD, List.getElem?_eq_getElem (by rw [<- el]; exact hi)]; exact List.getElem_mem _))) (.slice A l.length cap) w' (hk.below hb)
 clear hK hp
 have HKK := Lib.hid hk
 clear hT hok hk eK ex en el hsz hv0
 by_cases c0 : tx = []
 ·have gt : T.toList.isEmpty = true := by rw [HE.out, decide_eq_true c0]
  have C0 := Lib.hid c0
  clear c0
  by_cases c1 : n = 0
  ·have gn0 : ((n : Int) == 0) = true := by rw [beq_iff_eq]; omega
   have C1 := Lib.hid c1
   clear c1
   by_cases c2 : l.length = 2
   ·have gl : ((l.length : Int) == 2) = true := by rw [beq_iff_eq]; omega
    have C2 := Lib.hid c2
    clear c2
    by_cases c3 : l.all (M.exprF f) = true
    ·rw [c3] at AL
     have C3 := Lib.hid c3
     clear c3
     obtain rfl : r = true := by rw [er]; exact decide_eq_true ⟨C0.out, C1.out, C2.out, C3.out⟩
     clear er
     go_enter Tryz.func91, Tryz.ntmps91
     go_wp2_with fail
     (with_reducible refine (AL.out _ S0.out.below).mono ?_)
     rintro e w1 ⟨rfl, hb⟩
     have S1 := Lib.hid (S0.out.next hb)
     obtain ⟨-, -, y0, y1, y2, y3⟩ := id S1.out
     clear hb
     go_wp2_with fail
     go_ret
     exact ⟨rfl, S1.out.below⟩
    ·rw [Bool.eq_false_iff.2 c3] at AL
     have C3 := Lib.hid c3
     clear c3
     obtain rfl : r = false := by rw [er]; exact decide_eq_false (fun h => C3.out h.2.2.2)
     clear er
     go_enter Tryz.func91, Tryz.ntmps91
     go_wp2_with fail
     (with_reducible refine (AL.out _ S0.out.below).mono ?_)
     rintro e w1 ⟨rfl, hb⟩
     have S1 := Lib.hid (S0.out.next hb)
     obtain ⟨-, -, y0, y1, y2, y3⟩ := id S1.out
     clear hb
     go_wp2_with fail
     go_ret
     exact ⟨rfl, S1.out.below⟩
   ·have gl : ((l.length : Int) == 2) = false := by rw [beq_eq_false_iff_ne]; omega
    have C2 := Lib.hid c2
    clear c2
    obtain rfl : r = false := by rw [er]; exact decide_eq_false (fun h => C2.out h.2.2.1)
    clear er
    go_enter Tryz.func91, Tryz.ntmps91
    go_wp2_with fail
    go_ret
    exact ⟨rfl, S0.out.below⟩
  ·have gn0 : ((n : Int) == 0) = false := by rw [beq_eq_false_iff_ne]; omega
   have C1 := Lib.hid c1
   clear c1
   obtain rfl : r = false := by rw [er]; exact decide_eq_false (fun h => C1.out h.2.1)
   clear er
   go_enter Tryz.func91, Tryz.ntmps91
   go_wp2_with fail
   go_ret
   exact ⟨rfl, S0.out.below⟩
 ·have gt : T.toList.isEmpty = false := by rw [HE.out, decide_eq_false c0]
  have C0 := Lib.hid c0
  clear c0
  obtain rfl : r = false := by rw [er]; exact decide_eq_false (fun h => C0.out h.1)
  clear er
  go_enter Tryz.func91, Tryz.ntmps91
  go_wp2_with fail
  go_ret
  exact ⟨rfl, S0.out.below⟩

theorem isExpr_18 (t : M.Tree) (f : Nat) (hp : ∀ u, u ∈ t.kids -> FnC 91 (M.exprF f) u) (hkind : t.kind = 18) : FnC 91 (M.exprF (f + 1)) t := by
 intro v w hv
 have hv0 := hv
 have hud := hud9
 obtain ⟨T, kv, rfl, hT, hok, hk⟩ := hv
 obtain ⟨r, er⟩ : ∃ r, r = (M.exprF (f + 1)) t := ⟨_, rfl⟩
 rw [<- er]
 rw [M.exprF, if_neg (show ¬ t.kind = 14 by omega), if_neg (show ¬ t.kind = 15 by omega), if_neg (show ¬ t.kind = 16 by omega), if_neg (show ¬ t.kind = 17 by omega), if_pos hkind] at er
 obtain ⟨K, eK⟩ : ∃ K, K = t.kind := ⟨_, rfl⟩
 obtain ⟨tx, ex⟩ : ∃ x, x = t.text := ⟨_, rfl⟩
 obtain ⟨n, en⟩ : ∃ n, n = t.num := ⟨_, rfl⟩
 obtain ⟨l, el⟩ : ∃ l, l = t.kids := ⟨_, rfl⟩
 try rw [<- eK] at er
 try rw [<- ex] at er
 try rw [<- en] at er
 try rw [<- el] at er
 rw [<- eK, <- en] at hv0 ⊢
 rw [<- ex] at hT
 rw [<- el] at hk
 obtain ⟨A, cap, rfl, _⟩ := id hk
 have HE := Lib.hid (M.bs_empty hT)
 have HTX := Lib.hid hT
 have hn := hok.2.1
 have hsz := hok.2.2
 rw [<- en] at hn
 have S0 := Lib.hid (NB.start w K T n (.slice A l.length cap))
 have hK : K = 18 := eK.trans hkind
 have gk14 : (K == 14) = false := by rw [beq_eq_false_iff_ne]; omega
 have gk15 : (K == 15) = false := by rw [beq_eq_false_iff_ne]; omega
 have gk16 : (K == 16) = false := by rw [beq_eq_false_iff_ne]; omega
 have gk17 : (K == 17) = false := by rw [beq_eq_false_iff_ne]; omega
 have gk18 : (K == 18) = true := by rw [beq_iff_eq]; omega
 have AL := Lib.hid fun w' (hb : Below w.heap.size w w') => rall9_any (c := 5) (p := M.exprF f) l (fun i hi => is_5 (hp (l.getD i M.Tree.no) (by rw [el, List.getD_eq_getElem?_getD, List.getElem?_eq_getElem (by rw [<- el]; exact hi)]; exact List.getElem_mem _))) (.slice A l.length cap) w' (hk.below hb)
 clear hK hp
 have HKK := Lib.hid hk
 clear hT hok hk eK ex en el hsz hv0
 by_cases c0 : tx = []
 ·have gt : T.toList.isEmpty = true := by rw [HE.out, decide_eq_true c0]
  have C0 := Lib.hid c0
  clear c0
  by_cases c1 : n = 0
  ·have gn0 : ((n : Int) == 0) = true := by rw [beq_iff_eq]; omega
   have C1 := Lib.hid c1
   clear c1
   by_cases c2 : 0 < l.length
   ·have gl : decide ((l.length : Int) > 0) = true := by rw [decide_eq_true_eq]; omega
    have glN : 0 < l.length := by omega
    have C2 := Lib.hid c2
    clear c2
    by_cases c3 : l.all (M.exprF f) = true
    ·rw [c3] at AL
     have C3 := Lib.hid c3
     clear c3
     obtain rfl : r = true := by rw [er]; exact decide_eq_true ⟨C0.out, C1.out, C2.out, C3.out⟩
     clear er
     go_enter Tryz.func91, Tryz.ntmps91
     go_wp2_with fail
     (with_reducible refine (AL.out _ S0.out.below).mono ?_)
     rintro e w1 ⟨rfl, hb⟩
     have S1 := Lib.hid (S0.out.next hb)
     obtain ⟨-, -, y0, y1, y2, y3⟩ := id S1.out
     clear hb
     go_wp2_with fail
     go_ret
     exact ⟨rfl, S1.out.below⟩
    ·rw [Bool.eq_false_iff.2 c3] at AL
     have C3 := Lib.hid c3
     clear c3
     obtain rfl : r = false := by rw [er]; exact decide_eq_false (fun h => C3.out h.2.2.2)
     clear er
     go_enter Tryz.func91, Tryz.ntmps91
     go_wp2_with fail
     (with_reducible refine (AL.out _ S0.out.below).mono ?_)
     rintro e w1 ⟨rfl, hb⟩
     have S1 := Lib.hid (S0.out.next hb)
     obtain ⟨-, -, y0, y1, y2, y3⟩ := id S1.out
     clear hb
     go_wp2_with fail
     go_ret
     exact ⟨rfl, S1.out.below⟩
   ·have gl : decide ((l.length : Int) > 0) = false := by rw [decide_eq_false_iff_not]; omega
    have glN : ¬ 0 < l.length := by omega
    have C2 := Lib.hid c2
    clear c2
    obtain rfl : r = false := by rw [er]; exact decide_eq_false (fun h => C2.out h.2.2.1)
    clear er
    go_enter Tryz.func91, Tryz.ntmps91
    go_wp2_with fail
    go_ret
    exact ⟨rfl, S0.out.below⟩
  ·have gn0 : ((n : Int) == 0) = false := by rw [beq_eq_false_iff_ne]; omega
   have C1 := Lib.hid c1
   clear c1
   obtain rfl : r = false := by rw [er]; exact decide_eq_false (fun h => C1.out h.2.1)
   clear er
   go_enter Tryz.func91, Tryz.ntmps91
   go_wp2_with fail
   go_ret
   exact ⟨rfl, S0.out.below⟩
 ·have gt : T.toList.isEmpty = false := by rw [HE.out, decide_eq_false c0]
  have C0 := Lib.hid c0
  clear c0
  obtain rfl : r = false := by rw [er]; exact decide_eq_false (fun h => C0.out h.1)
  clear er
  go_enter Tryz.func91, Tryz.ntmps91
  go_wp2_with fail
  go_ret
  exact ⟨rfl, S0.out.below⟩

theorem isExpr_19 (t : M.Tree) (f : Nat) (hp : ∀ u, u ∈ t.kids -> FnC 91 (M.exprF f) u) (hkind : t.kind = 19) : FnC 91 (M.exprF (f + 1)) t := by
 intro v w hv
 have hv0 := hv
 have hud := hud9
 obtain ⟨T, kv, rfl, hT, hok, hk⟩ := hv
 obtain ⟨r, er⟩ : ∃ r, r = (M.exprF (f + 1)) t := ⟨_, rfl⟩
 rw [<- er]
 rw [M.exprF, if_neg (show ¬ t.kind = 14 by omega), if_neg (show ¬ t.kind = 15 by omega), if_neg (show ¬ t.kind = 16 by omega), if_neg (show ¬ t.kind = 17 by omega), if_neg (show ¬ t.kind = 18 by omega), if_pos hkind] at er
 obtain ⟨K, eK⟩ : ∃ K, K = t.kind := ⟨_, rfl⟩
 obtain ⟨tx, ex⟩ : ∃ x, x = t.text := ⟨_, rfl⟩
 obtain ⟨n, en⟩ : ∃ n, n = t.num := ⟨_, rfl⟩
 obtain ⟨l, el⟩ : ∃ l, l = t.kids := ⟨_, rfl⟩
 try rw [<- eK] at er
 try rw [<- ex] at er
 try rw [<- en] at er
 try rw [<- el] at er
 rw [<- eK, <- en] at hv0 ⊢
 rw [<- ex] at hT
 rw [<- el] at hk
 obtain ⟨A, cap, rfl, _⟩ := id hk
 have HE := Lib.hid (M.bs_empty hT)
 have HTX := Lib.hid hT
 have hn := hok.2.1
 have hsz := hok.2.2
 rw [<- en] at hn
 have S0 := Lib.hid (NB.start w K T n (.slice A l.length cap))
 have hK : K = 19 := eK.trans hkind
 have gk14 : (K == 14) = false := by rw [beq_eq_false_iff_ne]; omega
 have gk15 : (K == 15) = false := by rw [beq_eq_false_iff_ne]; omega
 have gk16 : (K == 16) = false := by rw [beq_eq_false_iff_ne]; omega
 have gk17 : (K == 17) = false := by rw [beq_eq_false_iff_ne]; omega
 have gk18 : (K == 18) = false := by rw [beq_eq_false_iff_ne]; omega
 have gk19 : (K == 19) = true := by rw [beq_iff_eq]; omega
 have HPP := Lib.hid fun i (hi : i < l.length) => hp (l.getD i M.Tree.no) (by rw [el, List.getD_eq_getElem?_getD, List.getElem?_eq_getElem (by rw [<- el]; exact hi)]; exact List.getElem_mem _)
 clear hK hp
 have HKK := Lib.hid hk
 clear hT hok hk eK ex en el hsz hv0
 by_cases c0 : tx = [33]
 ·have gs : T.toList = [33] := txt_pos HTX.out [33] c0
  have C0 := Lib.hid c0
  clear c0
  by_cases c1 : n = 0
  ·have gn0 : ((n : Int) == 0) = true := by rw [beq_iff_eq]; omega
   have C1 := Lib.hid c1
   clear c1
   by_cases c2 : l.length = 1
   ·have gl : ((l.length : Int) == 1) = true := by rw [beq_iff_eq]; omega
    obtain ⟨ba, oa, Ta, Aa, ma, cca, hAa, al, a0, a1, a2, a3, av⟩ := HKK.out.at 0 (by omega)
    cases hAa
    obtain ⟨ua, eua⟩ : ∃ u, u = l.getD 0 M.Tree.no := ⟨_, rfl⟩
    rw [<- eua] at a0 a2 av er
    obtain ⟨ka, eka⟩ : ∃ k, k = ua.kind := ⟨_, rfl⟩
    obtain ⟨na, ena⟩ : ∃ k, k = ua.num := ⟨_, rfl⟩
    rw [<- eka] at a0 av
    rw [<- ena] at a2 av
    simp only [show 0 * 4 = 0 from rfl, Nat.add_zero] at a0 a1 a2 a3
    have hia : 0 < l.length := by omega
    have Va := Lib.hid av
    have hpa := HPP.out 0 (by omega)
    rw [<- eua] at hpa
    have EX := Lib.hid fun w' (hb : Below w.heap.size w w') => hpa _ w' (Va.out.below hb)
    clear hpa
    clear av eua eka ena
    obtain ⟨qa0, qa1, qa2, qa3⟩ := bel4 S0.out.below al a0 a1 a2 a3
    have C2 := Lib.hid c2
    clear c2
    by_cases c3 : M.exprF f ua = true
    ·rw [c3] at EX
     have C3 := Lib.hid c3
     clear c3
     obtain rfl : r = true := by rw [er]; exact decide_eq_true ⟨(Or.inl C0.out), C1.out, C2.out, C3.out⟩
     clear er
     go_enter Tryz.func91, Tryz.ntmps91
     go_wp2_with fail
     (with_reducible refine (EX.out _ S0.out.below).mono ?_)
     rintro e w1 ⟨rfl, hb⟩
     have S1 := Lib.hid (S0.out.next hb)
     obtain ⟨-, -, y0, y1, y2, y3⟩ := id S1.out
     obtain ⟨qa0, qa1, qa2, qa3⟩ := bel4 S1.out.below al a0 a1 a2 a3
     clear hb
     go_wp2_with fail
     go_ret
     exact ⟨rfl, S1.out.below⟩
    ·rw [Bool.eq_false_iff.2 c3] at EX
     have C3 := Lib.hid c3
     clear c3
     obtain rfl : r = false := by rw [er]; exact decide_eq_false (fun h => C3.out h.2.2.2)
     clear er
     go_enter Tryz.func91, Tryz.ntmps91
     go_wp2_with fail
     (with_reducible refine (EX.out _ S0.out.below).mono ?_)
     rintro e w1 ⟨rfl, hb⟩
     have S1 := Lib.hid (S0.out.next hb)
     obtain ⟨-, -, y0, y1, y2, y3⟩ := id S1.out
     obtain ⟨qa0, qa1, qa2, qa3⟩ := bel4 S1.out.below al a0 a1 a2 a3
     clear hb
     go_wp2_with fail
     go_ret
     exact ⟨rfl, S1.out.below⟩
   ·have gl : ((l.length : Int) == 1) = false := by rw [beq_eq_false_iff_ne]; omega
    have C2 := Lib.hid c2
    clear c2
    obtain rfl : r = false := by rw [er]; exact decide_eq_false (fun h => C2.out h.2.2.1)
    clear er
    go_enter Tryz.func91, Tryz.ntmps91
    go_wp2_with fail
    go_ret
    exact ⟨rfl, S0.out.below⟩
  ·have gn0 : ((n : Int) == 0) = false := by rw [beq_eq_false_iff_ne]; omega
   have C1 := Lib.hid c1
   clear c1
   obtain rfl : r = false := by rw [er]; exact decide_eq_false (fun h => C1.out h.2.1)
   clear er
   go_enter Tryz.func91, Tryz.ntmps91
   go_wp2_with fail
   go_ret
   exact ⟨rfl, S0.out.below⟩
 ·have gs33 : ¬ T.toList = [33] := txt_neg HTX.out [33] c0
  have C0 := Lib.hid c0
  clear c0
  by_cases c1 : tx = [45]
  ·have gs : T.toList = [45] := txt_pos HTX.out [45] c1
   have C1 := Lib.hid c1
   clear c1
   by_cases c2 : n = 0
   ·have gn0 : ((n : Int) == 0) = true := by rw [beq_iff_eq]; omega
    have C2 := Lib.hid c2
    clear c2
    by_cases c3 : l.length = 1
    ·have gl : ((l.length : Int) == 1) = true := by rw [beq_iff_eq]; omega
     obtain ⟨ba, oa, Ta, Aa, ma, cca, hAa, al, a0, a1, a2, a3, av⟩ := HKK.out.at 0 (by omega)
     cases hAa
     obtain ⟨ua, eua⟩ : ∃ u, u = l.getD 0 M.Tree.no := ⟨_, rfl⟩
     rw [<- eua] at a0 a2 av er
     obtain ⟨ka, eka⟩ : ∃ k, k = ua.kind := ⟨_, rfl⟩
     obtain ⟨na, ena⟩ : ∃ k, k = ua.num := ⟨_, rfl⟩
     rw [<- eka] at a0 av
     rw [<- ena] at a2 av
     simp only [show 0 * 4 = 0 from rfl, Nat.add_zero] at a0 a1 a2 a3
     have hia : 0 < l.length := by omega
     have Va := Lib.hid av
     have hpa := HPP.out 0 (by omega)
     rw [<- eua] at hpa
     have EX := Lib.hid fun w' (hb : Below w.heap.size w w') => hpa _ w' (Va.out.below hb)
     clear hpa
     clear av eua eka ena
     obtain ⟨qa0, qa1, qa2, qa3⟩ := bel4 S0.out.below al a0 a1 a2 a3
     have C3 := Lib.hid c3
     clear c3
     by_cases c4 : M.exprF f ua = true
     ·rw [c4] at EX
      have C4 := Lib.hid c4
      clear c4
      obtain rfl : r = true := by rw [er]; exact decide_eq_true ⟨(Or.inr C1.out), C2.out, C3.out, C4.out⟩
      clear er
      go_enter Tryz.func91, Tryz.ntmps91
      go_wp2_with fail
      (with_reducible refine (EX.out _ S0.out.below).mono ?_)
      rintro e w1 ⟨rfl, hb⟩
      have S1 := Lib.hid (S0.out.next hb)
      obtain ⟨-, -, y0, y1, y2, y3⟩ := id S1.out
      obtain ⟨qa0, qa1, qa2, qa3⟩ := bel4 S1.out.below al a0 a1 a2 a3
      clear hb
      go_wp2_with fail
      go_ret
      exact ⟨rfl, S1.out.below⟩
     ·rw [Bool.eq_false_iff.2 c4] at EX
      have C4 := Lib.hid c4
      clear c4
      obtain rfl : r = false := by rw [er]; exact decide_eq_false (fun h => C4.out h.2.2.2)
      clear er
      go_enter Tryz.func91, Tryz.ntmps91
      go_wp2_with fail
      (with_reducible refine (EX.out _ S0.out.below).mono ?_)
      rintro e w1 ⟨rfl, hb⟩
      have S1 := Lib.hid (S0.out.next hb)
      obtain ⟨-, -, y0, y1, y2, y3⟩ := id S1.out
      obtain ⟨qa0, qa1, qa2, qa3⟩ := bel4 S1.out.below al a0 a1 a2 a3
      clear hb
      go_wp2_with fail
      go_ret
      exact ⟨rfl, S1.out.below⟩
    ·have gl : ((l.length : Int) == 1) = false := by rw [beq_eq_false_iff_ne]; omega
     have C3 := Lib.hid c3
     clear c3
     obtain rfl : r = false := by rw [er]; exact decide_eq_false (fun h => C3.out h.2.2.1)
     clear er
     go_enter Tryz.func91, Tryz.ntmps91
     go_wp2_with fail
     go_ret
     exact ⟨rfl, S0.out.below⟩
   ·have gn0 : ((n : Int) == 0) = false := by rw [beq_eq_false_iff_ne]; omega
    have C2 := Lib.hid c2
    clear c2
    obtain rfl : r = false := by rw [er]; exact decide_eq_false (fun h => C2.out h.2.1)
    clear er
    go_enter Tryz.func91, Tryz.ntmps91
    go_wp2_with fail
    go_ret
    exact ⟨rfl, S0.out.below⟩
  ·have gs45 : ¬ T.toList = [45] := txt_neg HTX.out [45] c1
   have C1 := Lib.hid c1
   clear c1
   obtain rfl : r = false := by rw [er]; exact decide_eq_false (fun h => (fun h => Or.elim h C0.out C1.out) h.1)
   clear er
   go_enter Tryz.func91, Tryz.ntmps91
   go_wp2_with fail
   go_ret
   exact ⟨rfl, S0.out.below⟩
open Go.RowKit
def signsB : Nat -> List ByteArray
 | 0 => [⟨#[124]⟩]
 | 1 => [⟨#[94]⟩]
 | 2 => [⟨#[38]⟩]
 | 3 => [⟨#[61, 61]⟩, ⟨#[60]⟩]
 | 4 => [⟨#[43]⟩, ⟨#[45]⟩]
 | _ => [⟨#[42]⟩]
theorem signsB_is (k : Nat) : (signsB k).map M.bs = M.signsL k := by
 match k with
 | 0 => rfl
 | 1 => rfl
 | 2 => rfl
 | 3 => rfl
 | 4 => rfl
 | k + 5 => rfl
theorem rsigns9_any (k : Nat) (hk : k < 1000) (w : World) : Calls Tryz.prog 132 #[.int .i64 k] w fun e w' => ∃ v, e = .returned v /\ StrS w' v (signsB k) /\ Below w.heap.size w w' := by
 have hud := hud9
 by_cases h0 : k = 0
 case pos =>
  subst h0
  go_enter Tryz.func132, Tryz.ntmps132
  go_wp2_with fail
  go_ret
  exact ⟨_, rfl, strS_new w (signsB 0) _ (by decide), (Below.refl _ _).alloc (Nat.le_refl _) _⟩
 have g0 : ((k : Int) == 0) = false := by rw [beq_eq_false_iff_ne]; omega
 by_cases h1 : k = 1
 case pos =>
  subst h1
  go_enter Tryz.func132, Tryz.ntmps132
  go_wp2_with fail
  go_ret
  exact ⟨_, rfl, strS_new w (signsB 1) _ (by decide), (Below.refl _ _).alloc (Nat.le_refl _) _⟩
 have g1 : ((k : Int) == 1) = false := by rw [beq_eq_false_iff_ne]; omega
 by_cases h2 : k = 2
 case pos =>
  subst h2
  go_enter Tryz.func132, Tryz.ntmps132
  go_wp2_with fail
  go_ret
  exact ⟨_, rfl, strS_new w (signsB 2) _ (by decide), (Below.refl _ _).alloc (Nat.le_refl _) _⟩
 have g2 : ((k : Int) == 2) = false := by rw [beq_eq_false_iff_ne]; omega
 by_cases h3 : k = 3
 case pos =>
  subst h3
  go_enter Tryz.func132, Tryz.ntmps132
  go_wp2_with fail
  go_ret
  exact ⟨_, rfl, strS_new w (signsB 3) _ (by decide), (Below.refl _ _).alloc (Nat.le_refl _) _⟩
 have g3 : ((k : Int) == 3) = false := by rw [beq_eq_false_iff_ne]; omega
 by_cases h4 : k = 4
 case pos =>
  subst h4
  go_enter Tryz.func132, Tryz.ntmps132
  go_wp2_with fail
  go_ret
  exact ⟨_, rfl, strS_new w (signsB 4) _ (by decide), (Below.refl _ _).alloc (Nat.le_refl _) _⟩
 have g4 : ((k : Int) == 4) = false := by rw [beq_eq_false_iff_ne]; omega
 obtain ⟨j, rfl⟩ : ∃ j, k = j + 5 := ⟨k - 5, by omega⟩
 clear h0 h1 h2 h3 h4
 go_enter Tryz.func132, Tryz.ntmps132
 go_wp2_with fail
 go_ret
 exact ⟨_, rfl, strS_new w [⟨#[42]⟩] _ (by decide), (Below.refl _ _).alloc (Nat.le_refl _) _⟩
def opN (t : List Nat) : Nat -> Bool
 | 0 => false
 | k + 1 => opN t k || decide (t ∈ M.signsL k)
theorem opN_six (t : List Nat) : opN t 6 = M.opB t := by
 unfold M.opB
 rw [Bool.eq_iff_iff, decide_eq_true_eq]
 simp only [opN, Bool.or_eq_true, decide_eq_true_eq, Bool.false_eq_true, false_or]
 constructor
 ·rintro (((((h | h) | h) | h) | h) | h)
  ·exact .inl h
  ·exact .inr (.inl h)
  ·exact .inr (.inr (.inl h))
  ·exact .inr (.inr (.inr (.inl h)))
  ·exact .inr (.inr (.inr (.inr (.inl h))))
  ·exact .inr (.inr (.inr (.inr (.inr h))))
 ·rintro (h | h | h | h | h | h)
  ·exact .inl (.inl (.inl (.inl (.inl h))))
  ·exact .inl (.inl (.inl (.inl (.inr h))))
  ·exact .inl (.inl (.inl (.inr h)))
  ·exact .inl (.inl (.inr h))
  ·exact .inl (.inr h)
  ·exact .inr h
def amongN (t : List Nat) (L : List ByteArray) (m : Nat) : Bool := decide (t ∈ (L.take m).map M.bs)
theorem amongN_succ {t : List Nat} {L : List ByteArray} {m : Nat} (h : m < L.length) : amongN t L (m + 1) = (amongN t L m || decide (t = M.bs (L.getD m ByteArray.empty))) := by
 have e : (L.take (m + 1)).map M.bs = (L.take m).map M.bs ++ [M.bs (L.getD m ByteArray.empty)] := by
  rw [List.take_add_one, List.getElem?_eq_getElem h, List.map_append, List.getD_eq_getElem?_getD, List.getElem?_eq_getElem h]; rfl
 unfold amongN
 rw [e, Bool.eq_iff_iff]
 simp only [List.mem_append, List.mem_singleton, decide_eq_true_eq, Bool.or_eq_true]
theorem amongN_all (t : List Nat) (k : Nat) : amongN t (signsB k) (signsB k).length = decide (t ∈ M.signsL k) := by
 unfold amongN
 rw [List.take_length, signsB_is]
theorem M.str_eq (x s : ByteArray) : (x.toList == s.toList) = decide (M.bs x = M.bs s) := by
 by_cases h : x = s
 ·subst h; simp
 ·rw [M.str_ne h, decide_eq_false fun e => h (M.bs_inj e)]

theorem isExpr_20 (t : M.Tree) (f : Nat) (hp : ∀ u, u ∈ t.kids -> FnC 91 (M.exprF f) u) (hkind : t.kind = 20) : FnC 91 (M.exprF (f + 1)) t := by
 intro v w hv
 have hud := hud9
 obtain ⟨T, kv, rfl, hT, hok, hk⟩ := hv
 obtain ⟨r, er⟩ : ∃ r, r = M.exprF (f + 1) t := ⟨_, rfl⟩
 rw [<- er]
 rw [M.exprF, if_neg (show ¬ t.kind = 14 by omega), if_neg (show ¬ t.kind = 15 by omega), if_neg (show ¬ t.kind = 16 by omega), if_neg (show ¬ t.kind = 17 by omega), if_neg (show ¬ t.kind = 18 by omega), if_neg (show ¬ t.kind = 19 by omega), if_pos hkind] at er
 obtain ⟨tx, ex⟩ : ∃ x, x = t.text := ⟨_, rfl⟩
 obtain ⟨n, en⟩ : ∃ n, n = t.num := ⟨_, rfl⟩
 obtain ⟨l, el⟩ : ∃ l, l = t.kids := ⟨_, rfl⟩
 rw [<- ex, <- en, <- el] at er
 rw [hkind, <- en]
 rw [<- ex] at hT
 rw [<- el] at hk
 obtain ⟨A, cap, rfl, _⟩ := id hk
 have hn := hok.2.1
 rw [<- en] at hn
 have S0 := Lib.hid (NB.start w 20 T n (.slice A l.length cap))
 have AL := Lib.hid fun w' (hb : Below w.heap.size w w') => rall9_any (c := 5) (p := M.exprF f) l (fun i hi => is_5 (hp (l.getD i M.Tree.no) (by rw [el, List.getD_eq_getElem?_getD, List.getElem?_eq_getElem (by rw [<- el]; exact hi)]; exact List.getElem_mem _))) (.slice A l.length cap) w' (hk.below hb)
 have SG := Lib.hid fun (k : Nat) (hk : k < 6) w => rsigns9_any k (by omega) w
 have HTX := Lib.hid hT
 have ER := Lib.hid er
 clear er hT hok hk ex en el hp hkind
 go_enter Tryz.func91, Tryz.ntmps91
 go_wp2_with fail
 go_loopw [4, 126] (fun ts ti wr => ∃ k : Nat, k <= 6 /\ ti = .int .i64 k /\ ts = .bool (opN tx k) /\ NB w 20 T n (.slice A l.length cap) wr) (fun _ ti _ => 6 - (intOf ti).toNat)
 case atStart => exact ⟨0, by omega, rfl, rfl, S0.out⟩
 case round =>
  obtain ⟨k, hk, rfl, rfl, hS⟩ := hrel
  have SK := Lib.hid hS
  clear hS
  by_cases hlt : k < 6
  ·go_wp2_with fail
   (with_reducible refine (SG.out k hlt _).mono ?_)
   rintro e w1 ⟨v1, rfl, hv1, hb1⟩
   obtain ⟨hl1, A1, c1, rfl, hc1⟩ := hv1
   have HC1 := Lib.hid hc1
   have S1 := Lib.hid (SK.out.next hb1)
   have HL := Lib.hid (amongN_all tx k)
   obtain ⟨L, eL⟩ : ∃ L, L = signsB k := ⟨_, rfl⟩
   rw [<- eL] at HC1 hl1 HL ⊢
   have EL := Lib.hid eL
   clear hc1 hb1 eL
   go_wp2_with fail
   go_loopw [4, 132] (fun ts ti wr => ∃ m : Nat, m <= L.length /\ ti = .int .i64 m /\ ts = .bool (opN tx k || amongN tx L m) /\ Below w1.heap.size w1 wr) (fun _ ti _ => L.length - (intOf ti).toNat)
   case atStart => exact ⟨0, by omega, rfl, by simp [amongN], Below.refl _ _⟩
   case round =>
    obtain ⟨m, hm, rfl, rfl, hB⟩ := hrel
    have SM := Lib.hid (S1.out.next hB)
    have HB := Lib.hid hB
    by_cases hlm : m < L.length
    ·obtain ⟨b, off, rfl, hcell⟩ := HC1.out (by omega)
     have hx0 := hcell m hlm
     have hx := (hB.cell (p := ⟨b, off + m, none⟩) (World.block_lt_of_cell? w1 _ hx0)).trans hx0
     have HS := Lib.hid (amongN_succ (t := tx) hlm)
     obtain ⟨x, ex⟩ : ∃ x, x = L.getD m ByteArray.empty := ⟨_, rfl⟩
     rw [<- ex] at hx HS
     have heq := M.str_eq T x
     rw [HTX.out] at heq
     obtain ⟨-, -, y0, y1, y2, y3⟩ := id SM.out
     clear hcell ex hx0 hB
     cases hcur : (opN tx k || amongN tx L m) with
     | true =>
      go_wp2_with fail
      go_roundw
      case rel => exact ⟨m + 1, by omega, by go_num, by rw [HS.out, <- Bool.or_assoc, hcur]; rfl, HB.out⟩
      case measure => simp [intOf]; omega
     | false =>
      go_wp2_with fail
      go_roundw
      case rel => exact ⟨m + 1, by omega, by go_num, by rw [HS.out, <- Bool.or_assoc, hcur]; simp, HB.out⟩
      case measure => simp [intOf]; omega
    ·obtain rfl : m = L.length := by omega
     rw [HL.out]
     have hop : (opN tx k || decide (tx ∈ M.signsL k)) = opN tx (k + 1) := rfl
     rw [hop]
     go_wp2_with fail
     go_roundw
     case rel => exact ⟨k + 1, by omega, by go_num, rfl, SM.out⟩
     case measure => simp [intOf]; omega
  ·obtain rfl : k = 6 := by omega
   rw [opN_six]
   obtain ⟨-, -, y0, y1, y2, y3⟩ := id SK.out
   cases hob : M.opB tx with
   | false =>
    obtain rfl : r = false := by rw [ER.out]; exact decide_eq_false fun h => by rw [hob] at h; exact absurd h.1 (by decide)
    clear hob
    go_wp2_with fail
    go_ret
    exact ⟨rfl, SK.out.below⟩
   | true =>
    have HOB := Lib.hid hob
    clear hob
    by_cases c1 : n = 0
    case neg =>
     have gn : ((n : Int) == 0) = false := by rw [beq_eq_false_iff_ne]; omega
     obtain rfl : r = false := by rw [ER.out]; exact decide_eq_false fun h => c1 h.2.1
     clear c1
     go_wp2_with fail
     go_ret
     exact ⟨rfl, SK.out.below⟩
    have gn : ((n : Int) == 0) = true := by rw [beq_iff_eq]; omega
    have C1 := Lib.hid c1
    clear c1
    by_cases c2 : l.length = 2
    case neg =>
     have gl : ((l.length : Int) == 2) = false := by rw [beq_eq_false_iff_ne]; omega
     obtain rfl : r = false := by rw [ER.out]; exact decide_eq_false fun h => c2 h.2.2.1
     clear c2
     go_wp2_with fail
     go_ret
     exact ⟨rfl, SK.out.below⟩
    have gl : ((l.length : Int) == 2) = true := by rw [beq_iff_eq]; omega
    have C2 := Lib.hid c2
    clear c2
    cases hal : l.all (M.exprF f) with
    | true =>
     obtain rfl : r = true := by rw [ER.out]; exact decide_eq_true ⟨HOB.out, C1.out, C2.out, hal⟩
     rw [hal] at AL
     clear hal
     go_wp2_with fail
     (with_reducible refine (AL.out _ SK.out.below).mono ?_)
     rintro e w5 ⟨rfl, hb⟩
     have S5 := Lib.hid (SK.out.next hb)
     clear hb
     go_wp2_with fail
     go_ret
     exact ⟨rfl, S5.out.below⟩
    | false =>
     obtain rfl : r = false := by rw [ER.out]; exact decide_eq_false fun h => by rw [hal] at h; exact absurd h.2.2.2 (by decide)
     rw [hal] at AL
     clear hal
     go_wp2_with fail
     (with_reducible refine (AL.out _ SK.out.below).mono ?_)
     rintro e w5 ⟨rfl, hb⟩
     have S5 := Lib.hid (SK.out.next hb)
     clear hb
     go_wp2_with fail
     go_ret
     exact ⟨rfl, S5.out.below⟩

theorem isExpr_else (t : M.Tree) (f : Nat) (h14 : t.kind ≠ 14) (h15 : t.kind ≠ 15) (h16 : t.kind ≠ 16) (h17 : t.kind ≠ 17) (h18 : t.kind ≠ 18) (h19 : t.kind ≠ 19) (h20 : t.kind ≠ 20) : FnC 91 (M.exprF (f + 1)) t := by
 intro v w hv
 have hud := hud9
 obtain ⟨T, kv, rfl, hT, hok, hk⟩ := hv
 rw [M.exprF, if_neg h14, if_neg h15, if_neg h16, if_neg h17, if_neg h18, if_neg h19, if_neg h20]
 obtain ⟨A, cap, rfl, _⟩ := id hk
 obtain ⟨K, eK⟩ : ∃ K, K = t.kind := ⟨_, rfl⟩
 rw [<- eK] at h14 h15 h16 h17 h18 h19 h20 ⊢
 have g14 : (K == 14) = false := beq_eq_false_iff_ne.2 h14
 have g15 : (K == 15) = false := beq_eq_false_iff_ne.2 h15
 have g16 : (K == 16) = false := beq_eq_false_iff_ne.2 h16
 have g17 : (K == 17) = false := beq_eq_false_iff_ne.2 h17
 have g18 : (K == 18) = false := beq_eq_false_iff_ne.2 h18
 have g19 : (K == 19) = false := beq_eq_false_iff_ne.2 h19
 have g20 : (K == 20) = false := beq_eq_false_iff_ne.2 h20
 have HB := Lib.hid fun o => balloc8 w o
 clear hT hok hk eK h14 h15 h16 h17 h18 h19 h20
 go_enter Tryz.func91, Tryz.ntmps91
 go_wp2_with fail
 go_ret
 exact ⟨rfl, HB.out _⟩
theorem isExpr_any : ∀ (f : Nat) (t : M.Tree), M.count t <= f -> FnC 91 (M.exprF f) t
 | 0, t, h => by have := M.count_pos t; omega
 | f + 1, t, h => by
  have hp : ∀ u, u ∈ t.kids -> FnC 91 (M.exprF f) u := fun u hu => isExpr_any f u (by have := M.count_kid hu; omega)
  by_cases h14 : t.kind = 14
  ·exact isExpr_14 t f hp h14
  by_cases h15 : t.kind = 15
  ·exact isExpr_15 t f hp h15
  by_cases h16 : t.kind = 16
  ·exact isExpr_16 t f hp h16
  by_cases h17 : t.kind = 17
  ·exact isExpr_17 t f hp h17
  by_cases h18 : t.kind = 18
  ·exact isExpr_18 t f hp h18
  by_cases h19 : t.kind = 19
  ·exact isExpr_19 t f hp h19
  by_cases h20 : t.kind = 20
  ·exact isExpr_20 t f hp h20
  exact isExpr_else t f h14 h15 h16 h17 h18 h19 h20
open Go.RowKit
theorem kid_mem {l : List M.Tree} {i : Nat} (h : i < l.length) : l.getD i M.Tree.no ∈ l := by
 rw [List.getD_eq_getElem?_getD, List.getElem?_eq_getElem h]; exact List.getElem_mem _

theorem isItem_2 (t : M.Tree) (f : Nat) (hp : ∀ u, u ∈ t.kids -> FnC 91 (M.exprF f) u) (hq : ∀ u, u ∈ t.kids -> FnC 89 (M.blockB (M.itemF f)) u) (hkind : t.kind = 2) : FnC 90 (M.itemF (f + 1)) t := by
 intro v w hv
 have hv0 := hv
 have hud := hud9
 obtain ⟨T, kv, rfl, hT, hok, hk⟩ := hv
 obtain ⟨r, er⟩ : ∃ r, r = (M.itemF (f + 1)) t := ⟨_, rfl⟩
 rw [<- er]
 rw [M.itemF, if_pos hkind] at er
 obtain ⟨K, eK⟩ : ∃ K, K = t.kind := ⟨_, rfl⟩
 obtain ⟨tx, ex⟩ : ∃ x, x = t.text := ⟨_, rfl⟩
 obtain ⟨n, en⟩ : ∃ n, n = t.num := ⟨_, rfl⟩
 obtain ⟨l, el⟩ : ∃ l, l = t.kids := ⟨_, rfl⟩
 try rw [<- eK] at er
 try rw [<- ex] at er
 try rw [<- en] at er
 try rw [<- el] at er
 rw [<- eK, <- en] at hv0 ⊢
 rw [<- ex] at hT
 rw [<- el] at hk
 obtain ⟨A, cap, rfl, _⟩ := id hk
 have HE := Lib.hid (M.bs_empty hT)
 have HTX := Lib.hid hT
 have hn := hok.2.1
 have hsz := hok.2.2
 rw [<- en] at hn
 have S0 := Lib.hid (NB.start w K T n (.slice A l.length cap))
 have hK : K = 2 := eK.trans hkind
 have gk2 : (K == 2) = true := by rw [beq_iff_eq]; omega
 have NM := Lib.hid fun w' (_ : Below w.heap.size w w') => rname9_any T w' hsz
 rw [hT] at NM
 clear hK hp hq
 have HKK := Lib.hid hk
 clear hT hok hk eK ex en el hsz hv0
 by_cases c0 : M.nameOk tx = true
 ·rw [c0] at NM
  have C0 := Lib.hid c0
  clear c0
  by_cases c1 : n = 0
  ·have gn0 : ((n : Int) == 0) = true := by rw [beq_iff_eq]; omega
   have C1 := Lib.hid c1
   clear c1
   by_cases c2 : n <= 4294967295
   ·have gn : decide ((n : Int) <= 4294967295) = true := by rw [decide_eq_true_eq]; omega
    have C2 := Lib.hid c2
    clear c2
    by_cases c3 : l.length = 1
    ·have gl : ((l.length : Int) == 1) = true := by rw [beq_iff_eq]; omega
     obtain ⟨ba, oa, Ta, Aa, ma, cca, hAa, al, a0, a1, a2, a3, av⟩ := HKK.out.at 0 (by omega)
     cases hAa
     obtain ⟨ua, eua⟩ : ∃ u, u = l.getD 0 M.Tree.no := ⟨_, rfl⟩
     rw [<- eua] at a0 a2 av er
     obtain ⟨ka, eka⟩ : ∃ k, k = ua.kind := ⟨_, rfl⟩
     obtain ⟨na, ena⟩ : ∃ k, k = ua.num := ⟨_, rfl⟩
     rw [<- eka] at a0 av
     rw [<- ena] at a2 av
     simp only [show 0 * 4 = 0 from rfl, Nat.add_zero] at a0 a1 a2 a3
     have hia : 0 < l.length := by omega
     have Va := Lib.hid av
     have TY := Lib.hid fun w' (hb : Below w.heap.size w w') => risType_any ua _ w' (Va.out.below hb)
     clear av eua eka ena
     obtain ⟨qa0, qa1, qa2, qa3⟩ := bel4 S0.out.below al a0 a1 a2 a3
     have C3 := Lib.hid c3
     clear c3
     by_cases c4 : M.typeB ua = true
     ·rw [c4] at TY
      have C4 := Lib.hid c4
      clear c4
      obtain rfl : r = true := by rw [er]; exact decide_eq_true ⟨C0.out, C2.out, C3.out, C4.out⟩
      clear er
      go_enter Tryz.func90, Tryz.ntmps90
      go_wp2_with fail
      (with_reducible refine (NM.out _ S0.out.below).mono ?_)
      rintro e w1 ⟨rfl, hb⟩
      have S1 := Lib.hid (S0.out.next hb)
      obtain ⟨-, -, y0, y1, y2, y3⟩ := id S1.out
      obtain ⟨qa0, qa1, qa2, qa3⟩ := bel4 S1.out.below al a0 a1 a2 a3
      clear hb
      go_wp2_with fail
      (with_reducible refine (NM.out _ S1.out.below).mono ?_)
      rintro e w2 ⟨rfl, hb⟩
      have S2 := Lib.hid (S1.out.next hb)
      obtain ⟨-, -, y0, y1, y2, y3⟩ := id S2.out
      obtain ⟨qa0, qa1, qa2, qa3⟩ := bel4 S2.out.below al a0 a1 a2 a3
      clear hb
      go_wp2_with fail
      (with_reducible refine (TY.out _ S2.out.below).mono ?_)
      rintro e w3 ⟨rfl, hb⟩
      have S3 := Lib.hid (S2.out.next hb)
      obtain ⟨-, -, y0, y1, y2, y3⟩ := id S3.out
      obtain ⟨qa0, qa1, qa2, qa3⟩ := bel4 S3.out.below al a0 a1 a2 a3
      clear hb
      go_wp2_with fail
      go_ret
      exact ⟨rfl, S3.out.below⟩
     ·rw [Bool.eq_false_iff.2 c4] at TY
      have C4 := Lib.hid c4
      clear c4
      obtain rfl : r = false := by rw [er]; exact decide_eq_false (fun h => C4.out h.2.2.2)
      clear er
      go_enter Tryz.func90, Tryz.ntmps90
      go_wp2_with fail
      (with_reducible refine (NM.out _ S0.out.below).mono ?_)
      rintro e w1 ⟨rfl, hb⟩
      have S1 := Lib.hid (S0.out.next hb)
      obtain ⟨-, -, y0, y1, y2, y3⟩ := id S1.out
      obtain ⟨qa0, qa1, qa2, qa3⟩ := bel4 S1.out.below al a0 a1 a2 a3
      clear hb
      go_wp2_with fail
      (with_reducible refine (NM.out _ S1.out.below).mono ?_)
      rintro e w2 ⟨rfl, hb⟩
      have S2 := Lib.hid (S1.out.next hb)
      obtain ⟨-, -, y0, y1, y2, y3⟩ := id S2.out
      obtain ⟨qa0, qa1, qa2, qa3⟩ := bel4 S2.out.below al a0 a1 a2 a3
      clear hb
      go_wp2_with fail
      (with_reducible refine (TY.out _ S2.out.below).mono ?_)
      rintro e w3 ⟨rfl, hb⟩
      have S3 := Lib.hid (S2.out.next hb)
      obtain ⟨-, -, y0, y1, y2, y3⟩ := id S3.out
      obtain ⟨qa0, qa1, qa2, qa3⟩ := bel4 S3.out.below al a0 a1 a2 a3
      clear hb
      go_wp2_with fail
      go_ret
      exact ⟨rfl, S3.out.below⟩
    ·have gl : ((l.length : Int) == 1) = false := by rw [beq_eq_false_iff_ne]; omega
     have C3 := Lib.hid c3
     clear c3
     obtain rfl : r = false := by rw [er]; exact decide_eq_false (fun h => C3.out h.2.2.1)
     clear er
     go_enter Tryz.func90, Tryz.ntmps90
     go_wp2_with fail
     (with_reducible refine (NM.out _ S0.out.below).mono ?_)
     rintro e w1 ⟨rfl, hb⟩
     have S1 := Lib.hid (S0.out.next hb)
     obtain ⟨-, -, y0, y1, y2, y3⟩ := id S1.out
     clear hb
     go_wp2_with fail
     (with_reducible refine (NM.out _ S1.out.below).mono ?_)
     rintro e w2 ⟨rfl, hb⟩
     have S2 := Lib.hid (S1.out.next hb)
     obtain ⟨-, -, y0, y1, y2, y3⟩ := id S2.out
     clear hb
     go_wp2_with fail
     go_ret
     exact ⟨rfl, S2.out.below⟩
   ·have gn : decide ((n : Int) <= 4294967295) = false := by rw [decide_eq_false_iff_not]; omega
    have C2 := Lib.hid c2
    clear c2
    obtain rfl : r = false := by rw [er]; exact decide_eq_false (fun h => C2.out h.2.1)
    clear er
    go_enter Tryz.func90, Tryz.ntmps90
    go_wp2_with fail
    (with_reducible refine (NM.out _ S0.out.below).mono ?_)
    rintro e w1 ⟨rfl, hb⟩
    have S1 := Lib.hid (S0.out.next hb)
    obtain ⟨-, -, y0, y1, y2, y3⟩ := id S1.out
    clear hb
    go_wp2_with fail
    (with_reducible refine (NM.out _ S1.out.below).mono ?_)
    rintro e w2 ⟨rfl, hb⟩
    have S2 := Lib.hid (S1.out.next hb)
    obtain ⟨-, -, y0, y1, y2, y3⟩ := id S2.out
    clear hb
    go_wp2_with fail
    go_ret
    exact ⟨rfl, S2.out.below⟩
  ·have gn0 : ((n : Int) == 0) = false := by rw [beq_eq_false_iff_ne]; omega
   have C1 := Lib.hid c1
   clear c1
   by_cases c2 : n <= 4294967295
   ·have gn : decide ((n : Int) <= 4294967295) = true := by rw [decide_eq_true_eq]; omega
    have C2 := Lib.hid c2
    clear c2
    by_cases c3 : l.length = 1
    ·have gl : ((l.length : Int) == 1) = true := by rw [beq_iff_eq]; omega
     obtain ⟨ba, oa, Ta, Aa, ma, cca, hAa, al, a0, a1, a2, a3, av⟩ := HKK.out.at 0 (by omega)
     cases hAa
     obtain ⟨ua, eua⟩ : ∃ u, u = l.getD 0 M.Tree.no := ⟨_, rfl⟩
     rw [<- eua] at a0 a2 av er
     obtain ⟨ka, eka⟩ : ∃ k, k = ua.kind := ⟨_, rfl⟩
     obtain ⟨na, ena⟩ : ∃ k, k = ua.num := ⟨_, rfl⟩
     rw [<- eka] at a0 av
     rw [<- ena] at a2 av
     simp only [show 0 * 4 = 0 from rfl, Nat.add_zero] at a0 a1 a2 a3
     have hia : 0 < l.length := by omega
     have Va := Lib.hid av
     have TY := Lib.hid fun w' (hb : Below w.heap.size w w') => risType_any ua _ w' (Va.out.below hb)
     clear av eua eka ena
     obtain ⟨qa0, qa1, qa2, qa3⟩ := bel4 S0.out.below al a0 a1 a2 a3
     have C3 := Lib.hid c3
     clear c3
     by_cases c4 : M.typeB ua = true
     ·rw [c4] at TY
      have C4 := Lib.hid c4
      clear c4
      obtain rfl : r = true := by rw [er]; exact decide_eq_true ⟨C0.out, C2.out, C3.out, C4.out⟩
      clear er
      go_enter Tryz.func90, Tryz.ntmps90
      go_wp2_with fail
      (with_reducible refine (NM.out _ S0.out.below).mono ?_)
      rintro e w1 ⟨rfl, hb⟩
      have S1 := Lib.hid (S0.out.next hb)
      obtain ⟨-, -, y0, y1, y2, y3⟩ := id S1.out
      obtain ⟨qa0, qa1, qa2, qa3⟩ := bel4 S1.out.below al a0 a1 a2 a3
      clear hb
      go_wp2_with fail
      (with_reducible refine (NM.out _ S1.out.below).mono ?_)
      rintro e w2 ⟨rfl, hb⟩
      have S2 := Lib.hid (S1.out.next hb)
      obtain ⟨-, -, y0, y1, y2, y3⟩ := id S2.out
      obtain ⟨qa0, qa1, qa2, qa3⟩ := bel4 S2.out.below al a0 a1 a2 a3
      clear hb
      go_wp2_with fail
      (with_reducible refine (TY.out _ S2.out.below).mono ?_)
      rintro e w3 ⟨rfl, hb⟩
      have S3 := Lib.hid (S2.out.next hb)
      obtain ⟨-, -, y0, y1, y2, y3⟩ := id S3.out
      obtain ⟨qa0, qa1, qa2, qa3⟩ := bel4 S3.out.below al a0 a1 a2 a3
      clear hb
      go_wp2_with fail
      go_ret
      exact ⟨rfl, S3.out.below⟩
     ·rw [Bool.eq_false_iff.2 c4] at TY
      have C4 := Lib.hid c4
      clear c4
      obtain rfl : r = false := by rw [er]; exact decide_eq_false (fun h => C4.out h.2.2.2)
      clear er
      go_enter Tryz.func90, Tryz.ntmps90
      go_wp2_with fail
      (with_reducible refine (NM.out _ S0.out.below).mono ?_)
      rintro e w1 ⟨rfl, hb⟩
      have S1 := Lib.hid (S0.out.next hb)
      obtain ⟨-, -, y0, y1, y2, y3⟩ := id S1.out
      obtain ⟨qa0, qa1, qa2, qa3⟩ := bel4 S1.out.below al a0 a1 a2 a3
      clear hb
      go_wp2_with fail
      (with_reducible refine (NM.out _ S1.out.below).mono ?_)
      rintro e w2 ⟨rfl, hb⟩
      have S2 := Lib.hid (S1.out.next hb)
      obtain ⟨-, -, y0, y1, y2, y3⟩ := id S2.out
      obtain ⟨qa0, qa1, qa2, qa3⟩ := bel4 S2.out.below al a0 a1 a2 a3
      clear hb
      go_wp2_with fail
      (with_reducible refine (TY.out _ S2.out.below).mono ?_)
      rintro e w3 ⟨rfl, hb⟩
      have S3 := Lib.hid (S2.out.next hb)
      obtain ⟨-, -, y0, y1, y2, y3⟩ := id S3.out
      obtain ⟨qa0, qa1, qa2, qa3⟩ := bel4 S3.out.below al a0 a1 a2 a3
      clear hb
      go_wp2_with fail
      go_ret
      exact ⟨rfl, S3.out.below⟩
    ·have gl : ((l.length : Int) == 1) = false := by rw [beq_eq_false_iff_ne]; omega
     have C3 := Lib.hid c3
     clear c3
     obtain rfl : r = false := by rw [er]; exact decide_eq_false (fun h => C3.out h.2.2.1)
     clear er
     go_enter Tryz.func90, Tryz.ntmps90
     go_wp2_with fail
     (with_reducible refine (NM.out _ S0.out.below).mono ?_)
     rintro e w1 ⟨rfl, hb⟩
     have S1 := Lib.hid (S0.out.next hb)
     obtain ⟨-, -, y0, y1, y2, y3⟩ := id S1.out
     clear hb
     go_wp2_with fail
     (with_reducible refine (NM.out _ S1.out.below).mono ?_)
     rintro e w2 ⟨rfl, hb⟩
     have S2 := Lib.hid (S1.out.next hb)
     obtain ⟨-, -, y0, y1, y2, y3⟩ := id S2.out
     clear hb
     go_wp2_with fail
     go_ret
     exact ⟨rfl, S2.out.below⟩
   ·have gn : decide ((n : Int) <= 4294967295) = false := by rw [decide_eq_false_iff_not]; omega
    have C2 := Lib.hid c2
    clear c2
    obtain rfl : r = false := by rw [er]; exact decide_eq_false (fun h => C2.out h.2.1)
    clear er
    go_enter Tryz.func90, Tryz.ntmps90
    go_wp2_with fail
    (with_reducible refine (NM.out _ S0.out.below).mono ?_)
    rintro e w1 ⟨rfl, hb⟩
    have S1 := Lib.hid (S0.out.next hb)
    obtain ⟨-, -, y0, y1, y2, y3⟩ := id S1.out
    clear hb
    go_wp2_with fail
    (with_reducible refine (NM.out _ S1.out.below).mono ?_)
    rintro e w2 ⟨rfl, hb⟩
    have S2 := Lib.hid (S1.out.next hb)
    obtain ⟨-, -, y0, y1, y2, y3⟩ := id S2.out
    clear hb
    go_wp2_with fail
    go_ret
    exact ⟨rfl, S2.out.below⟩
 ·rw [Bool.eq_false_iff.2 c0] at NM
  have C0 := Lib.hid c0
  clear c0
  obtain rfl : r = false := by rw [er]; exact decide_eq_false (fun h => C0.out h.1)
  clear er
  go_enter Tryz.func90, Tryz.ntmps90
  go_wp2_with fail
  (with_reducible refine (NM.out _ S0.out.below).mono ?_)
  rintro e w1 ⟨rfl, hb⟩
  have S1 := Lib.hid (S0.out.next hb)
  obtain ⟨-, -, y0, y1, y2, y3⟩ := id S1.out
  clear hb
  go_wp2_with fail
  (with_reducible refine (NM.out _ S1.out.below).mono ?_)
  rintro e w2 ⟨rfl, hb⟩
  have S2 := Lib.hid (S1.out.next hb)
  obtain ⟨-, -, y0, y1, y2, y3⟩ := id S2.out
  clear hb
  go_wp2_with fail
  go_ret
  exact ⟨rfl, S2.out.below⟩

theorem isItem_3 (t : M.Tree) (f : Nat) (hp : ∀ u, u ∈ t.kids -> FnC 91 (M.exprF f) u) (hq : ∀ u, u ∈ t.kids -> FnC 89 (M.blockB (M.itemF f)) u) (hkind : t.kind = 3) : FnC 90 (M.itemF (f + 1)) t := by
 intro v w hv
 have hv0 := hv
 have hud := hud9
 obtain ⟨T, kv, rfl, hT, hok, hk⟩ := hv
 obtain ⟨r, er⟩ : ∃ r, r = (M.itemF (f + 1)) t := ⟨_, rfl⟩
 rw [<- er]
 rw [M.itemF, if_neg (show ¬ t.kind = 2 by omega), if_pos hkind] at er
 obtain ⟨K, eK⟩ : ∃ K, K = t.kind := ⟨_, rfl⟩
 obtain ⟨tx, ex⟩ : ∃ x, x = t.text := ⟨_, rfl⟩
 obtain ⟨n, en⟩ : ∃ n, n = t.num := ⟨_, rfl⟩
 obtain ⟨l, el⟩ : ∃ l, l = t.kids := ⟨_, rfl⟩
 try rw [<- eK] at er
 try rw [<- ex] at er
 try rw [<- en] at er
 try rw [<- el] at er
 rw [<- eK, <- en] at hv0 ⊢
 rw [<- ex] at hT
 rw [<- el] at hk
 obtain ⟨A, cap, rfl, _⟩ := id hk
 have HE := Lib.hid (M.bs_empty hT)
 have HTX := Lib.hid hT
 have hn := hok.2.1
 have hsz := hok.2.2
 rw [<- en] at hn
 have S0 := Lib.hid (NB.start w K T n (.slice A l.length cap))
 have hK : K = 3 := eK.trans hkind
 have gk2 : (K == 2) = false := by rw [beq_eq_false_iff_ne]; omega
 have gk3 : (K == 3) = true := by rw [beq_iff_eq]; omega
 have NM := Lib.hid fun w' (_ : Below w.heap.size w w') => rname9_any T w' hsz
 rw [hT] at NM
 have HPP := Lib.hid fun i (hi : i < l.length) => hp (l.getD i M.Tree.no) (by rw [<- el]; exact kid_mem hi)
 have HQQ := Lib.hid fun i (hi : i < l.length) => hq (l.getD i M.Tree.no) (by rw [<- el]; exact kid_mem hi)
 clear hK hp hq
 have HKK := Lib.hid hk
 clear hT hok hk eK ex en el hsz hv0
 by_cases c0 : M.nameOk tx = true
 ·rw [c0] at NM
  have C0 := Lib.hid c0
  clear c0
  by_cases c1 : n = 0
  ·have gn0 : ((n : Int) == 0) = true := by rw [beq_iff_eq]; omega
   have C1 := Lib.hid c1
   clear c1
   by_cases c2 : l.length = 1
   ·have gl : ((l.length : Int) == 1) = true := by rw [beq_iff_eq]; omega
    obtain ⟨ba, oa, Ta, Aa, ma, cca, hAa, al, a0, a1, a2, a3, av⟩ := HKK.out.at 0 (by omega)
    cases hAa
    obtain ⟨ua, eua⟩ : ∃ u, u = l.getD 0 M.Tree.no := ⟨_, rfl⟩
    rw [<- eua] at a0 a2 av er
    obtain ⟨ka, eka⟩ : ∃ k, k = ua.kind := ⟨_, rfl⟩
    obtain ⟨na, ena⟩ : ∃ k, k = ua.num := ⟨_, rfl⟩
    rw [<- eka] at a0 av
    rw [<- ena] at a2 av
    simp only [show 0 * 4 = 0 from rfl, Nat.add_zero] at a0 a1 a2 a3
    have hia : 0 < l.length := by omega
    have Va := Lib.hid av
    have hpa := HPP.out 0 (by omega)
    rw [<- eua] at hpa
    have EX := Lib.hid fun w' (hb : Below w.heap.size w w') => hpa _ w' (Va.out.below hb)
    clear hpa
    clear av eua eka ena
    obtain ⟨qa0, qa1, qa2, qa3⟩ := bel4 S0.out.below al a0 a1 a2 a3
    have C2 := Lib.hid c2
    clear c2
    by_cases c3 : M.exprF f ua = true
    ·rw [c3] at EX
     have C3 := Lib.hid c3
     clear c3
     obtain rfl : r = true := by rw [er]; exact decide_eq_true ⟨C0.out, C1.out, C2.out, C3.out⟩
     clear er
     go_enter Tryz.func90, Tryz.ntmps90
     go_wp2_with fail
     (with_reducible refine (NM.out _ S0.out.below).mono ?_)
     rintro e w1 ⟨rfl, hb⟩
     have S1 := Lib.hid (S0.out.next hb)
     obtain ⟨-, -, y0, y1, y2, y3⟩ := id S1.out
     obtain ⟨qa0, qa1, qa2, qa3⟩ := bel4 S1.out.below al a0 a1 a2 a3
     clear hb
     go_wp2_with fail
     (with_reducible refine (EX.out _ S1.out.below).mono ?_)
     rintro e w2 ⟨rfl, hb⟩
     have S2 := Lib.hid (S1.out.next hb)
     obtain ⟨-, -, y0, y1, y2, y3⟩ := id S2.out
     obtain ⟨qa0, qa1, qa2, qa3⟩ := bel4 S2.out.below al a0 a1 a2 a3
     clear hb
     go_wp2_with fail
     go_ret
     exact ⟨rfl, S2.out.below⟩
    ·rw [Bool.eq_false_iff.2 c3] at EX
     have C3 := Lib.hid c3
     clear c3
     obtain rfl : r = false := by rw [er]; exact decide_eq_false (fun h => C3.out h.2.2.2)
     clear er
     go_enter Tryz.func90, Tryz.ntmps90
     go_wp2_with fail
     (with_reducible refine (NM.out _ S0.out.below).mono ?_)
     rintro e w1 ⟨rfl, hb⟩
     have S1 := Lib.hid (S0.out.next hb)
     obtain ⟨-, -, y0, y1, y2, y3⟩ := id S1.out
     obtain ⟨qa0, qa1, qa2, qa3⟩ := bel4 S1.out.below al a0 a1 a2 a3
     clear hb
     go_wp2_with fail
     (with_reducible refine (EX.out _ S1.out.below).mono ?_)
     rintro e w2 ⟨rfl, hb⟩
     have S2 := Lib.hid (S1.out.next hb)
     obtain ⟨-, -, y0, y1, y2, y3⟩ := id S2.out
     obtain ⟨qa0, qa1, qa2, qa3⟩ := bel4 S2.out.below al a0 a1 a2 a3
     clear hb
     go_wp2_with fail
     go_ret
     exact ⟨rfl, S2.out.below⟩
   ·have gl : ((l.length : Int) == 1) = false := by rw [beq_eq_false_iff_ne]; omega
    have C2 := Lib.hid c2
    clear c2
    obtain rfl : r = false := by rw [er]; exact decide_eq_false (fun h => C2.out h.2.2.1)
    clear er
    go_enter Tryz.func90, Tryz.ntmps90
    go_wp2_with fail
    (with_reducible refine (NM.out _ S0.out.below).mono ?_)
    rintro e w1 ⟨rfl, hb⟩
    have S1 := Lib.hid (S0.out.next hb)
    obtain ⟨-, -, y0, y1, y2, y3⟩ := id S1.out
    clear hb
    go_wp2_with fail
    go_ret
    exact ⟨rfl, S1.out.below⟩
  ·have gn0 : ((n : Int) == 0) = false := by rw [beq_eq_false_iff_ne]; omega
   have C1 := Lib.hid c1
   clear c1
   obtain rfl : r = false := by rw [er]; exact decide_eq_false (fun h => C1.out h.2.1)
   clear er
   go_enter Tryz.func90, Tryz.ntmps90
   go_wp2_with fail
   (with_reducible refine (NM.out _ S0.out.below).mono ?_)
   rintro e w1 ⟨rfl, hb⟩
   have S1 := Lib.hid (S0.out.next hb)
   obtain ⟨-, -, y0, y1, y2, y3⟩ := id S1.out
   clear hb
   go_wp2_with fail
   go_ret
   exact ⟨rfl, S1.out.below⟩
 ·rw [Bool.eq_false_iff.2 c0] at NM
  have C0 := Lib.hid c0
  clear c0
  obtain rfl : r = false := by rw [er]; exact decide_eq_false (fun h => C0.out h.1)
  clear er
  go_enter Tryz.func90, Tryz.ntmps90
  go_wp2_with fail
  (with_reducible refine (NM.out _ S0.out.below).mono ?_)
  rintro e w1 ⟨rfl, hb⟩
  have S1 := Lib.hid (S0.out.next hb)
  obtain ⟨-, -, y0, y1, y2, y3⟩ := id S1.out
  clear hb
  go_wp2_with fail
  go_ret
  exact ⟨rfl, S1.out.below⟩

theorem isItem_4 (t : M.Tree) (f : Nat) (hp : ∀ u, u ∈ t.kids -> FnC 91 (M.exprF f) u) (hq : ∀ u, u ∈ t.kids -> FnC 89 (M.blockB (M.itemF f)) u) (hkind : t.kind = 4) : FnC 90 (M.itemF (f + 1)) t := by
 intro v w hv
 have hv0 := hv
 have hud := hud9
 obtain ⟨T, kv, rfl, hT, hok, hk⟩ := hv
 obtain ⟨r, er⟩ : ∃ r, r = (M.itemF (f + 1)) t := ⟨_, rfl⟩
 rw [<- er]
 rw [M.itemF, if_neg (show ¬ t.kind = 2 by omega), if_neg (show ¬ t.kind = 3 by omega), if_pos hkind] at er
 obtain ⟨K, eK⟩ : ∃ K, K = t.kind := ⟨_, rfl⟩
 obtain ⟨tx, ex⟩ : ∃ x, x = t.text := ⟨_, rfl⟩
 obtain ⟨n, en⟩ : ∃ n, n = t.num := ⟨_, rfl⟩
 obtain ⟨l, el⟩ : ∃ l, l = t.kids := ⟨_, rfl⟩
 try rw [<- eK] at er
 try rw [<- ex] at er
 try rw [<- en] at er
 try rw [<- el] at er
 rw [<- eK, <- en] at hv0 ⊢
 rw [<- ex] at hT
 rw [<- el] at hk
 obtain ⟨A, cap, rfl, _⟩ := id hk
 have HE := Lib.hid (M.bs_empty hT)
 have HTX := Lib.hid hT
 have hn := hok.2.1
 have hsz := hok.2.2
 rw [<- en] at hn
 have S0 := Lib.hid (NB.start w K T n (.slice A l.length cap))
 have hK : K = 4 := eK.trans hkind
 have gk2 : (K == 2) = false := by rw [beq_eq_false_iff_ne]; omega
 have gk3 : (K == 3) = false := by rw [beq_eq_false_iff_ne]; omega
 have gk4 : (K == 4) = true := by rw [beq_iff_eq]; omega
 have NM := Lib.hid fun w' (_ : Below w.heap.size w w') => rname9_any T w' hsz
 rw [hT] at NM
 have HPP := Lib.hid fun i (hi : i < l.length) => hp (l.getD i M.Tree.no) (by rw [<- el]; exact kid_mem hi)
 have HQQ := Lib.hid fun i (hi : i < l.length) => hq (l.getD i M.Tree.no) (by rw [<- el]; exact kid_mem hi)
 clear hK hp hq
 have HKK := Lib.hid hk
 clear hT hok hk eK ex en el hsz hv0
 by_cases c0 : M.nameOk tx = true
 ·rw [c0] at NM
  have C0 := Lib.hid c0
  clear c0
  by_cases c1 : n = 0
  ·have gn0 : ((n : Int) == 0) = true := by rw [beq_iff_eq]; omega
   have C1 := Lib.hid c1
   clear c1
   by_cases c2 : l.length = 1
   ·have gl : ((l.length : Int) == 1) = true := by rw [beq_iff_eq]; omega
    obtain ⟨ba, oa, Ta, Aa, ma, cca, hAa, al, a0, a1, a2, a3, av⟩ := HKK.out.at 0 (by omega)
    cases hAa
    obtain ⟨ua, eua⟩ : ∃ u, u = l.getD 0 M.Tree.no := ⟨_, rfl⟩
    rw [<- eua] at a0 a2 av er
    obtain ⟨ka, eka⟩ : ∃ k, k = ua.kind := ⟨_, rfl⟩
    obtain ⟨na, ena⟩ : ∃ k, k = ua.num := ⟨_, rfl⟩
    rw [<- eka] at a0 av
    rw [<- ena] at a2 av
    simp only [show 0 * 4 = 0 from rfl, Nat.add_zero] at a0 a1 a2 a3
    have hia : 0 < l.length := by omega
    have Va := Lib.hid av
    have hpa := HPP.out 0 (by omega)
    rw [<- eua] at hpa
    have EX := Lib.hid fun w' (hb : Below w.heap.size w w') => hpa _ w' (Va.out.below hb)
    clear hpa
    clear av eua eka ena
    obtain ⟨qa0, qa1, qa2, qa3⟩ := bel4 S0.out.below al a0 a1 a2 a3
    have C2 := Lib.hid c2
    clear c2
    by_cases c3 : M.exprF f ua = true
    ·rw [c3] at EX
     have C3 := Lib.hid c3
     clear c3
     obtain rfl : r = true := by rw [er]; exact decide_eq_true ⟨C0.out, C1.out, C2.out, C3.out⟩
     clear er
     go_enter Tryz.func90, Tryz.ntmps90
     go_wp2_with fail
     (with_reducible refine (NM.out _ S0.out.below).mono ?_)
     rintro e w1 ⟨rfl, hb⟩
     have S1 := Lib.hid (S0.out.next hb)
     obtain ⟨-, -, y0, y1, y2, y3⟩ := id S1.out
     obtain ⟨qa0, qa1, qa2, qa3⟩ := bel4 S1.out.below al a0 a1 a2 a3
     clear hb
     go_wp2_with fail
     (with_reducible refine (EX.out _ S1.out.below).mono ?_)
     rintro e w2 ⟨rfl, hb⟩
     have S2 := Lib.hid (S1.out.next hb)
     obtain ⟨-, -, y0, y1, y2, y3⟩ := id S2.out
     obtain ⟨qa0, qa1, qa2, qa3⟩ := bel4 S2.out.below al a0 a1 a2 a3
     clear hb
     go_wp2_with fail
     go_ret
     exact ⟨rfl, S2.out.below⟩
    ·rw [Bool.eq_false_iff.2 c3] at EX
     have C3 := Lib.hid c3
     clear c3
     obtain rfl : r = false := by rw [er]; exact decide_eq_false (fun h => C3.out h.2.2.2)
     clear er
     go_enter Tryz.func90, Tryz.ntmps90
     go_wp2_with fail
     (with_reducible refine (NM.out _ S0.out.below).mono ?_)
     rintro e w1 ⟨rfl, hb⟩
     have S1 := Lib.hid (S0.out.next hb)
     obtain ⟨-, -, y0, y1, y2, y3⟩ := id S1.out
     obtain ⟨qa0, qa1, qa2, qa3⟩ := bel4 S1.out.below al a0 a1 a2 a3
     clear hb
     go_wp2_with fail
     (with_reducible refine (EX.out _ S1.out.below).mono ?_)
     rintro e w2 ⟨rfl, hb⟩
     have S2 := Lib.hid (S1.out.next hb)
     obtain ⟨-, -, y0, y1, y2, y3⟩ := id S2.out
     obtain ⟨qa0, qa1, qa2, qa3⟩ := bel4 S2.out.below al a0 a1 a2 a3
     clear hb
     go_wp2_with fail
     go_ret
     exact ⟨rfl, S2.out.below⟩
   ·have gl : ((l.length : Int) == 1) = false := by rw [beq_eq_false_iff_ne]; omega
    have C2 := Lib.hid c2
    clear c2
    obtain rfl : r = false := by rw [er]; exact decide_eq_false (fun h => C2.out h.2.2.1)
    clear er
    go_enter Tryz.func90, Tryz.ntmps90
    go_wp2_with fail
    (with_reducible refine (NM.out _ S0.out.below).mono ?_)
    rintro e w1 ⟨rfl, hb⟩
    have S1 := Lib.hid (S0.out.next hb)
    obtain ⟨-, -, y0, y1, y2, y3⟩ := id S1.out
    clear hb
    go_wp2_with fail
    go_ret
    exact ⟨rfl, S1.out.below⟩
  ·have gn0 : ((n : Int) == 0) = false := by rw [beq_eq_false_iff_ne]; omega
   have C1 := Lib.hid c1
   clear c1
   obtain rfl : r = false := by rw [er]; exact decide_eq_false (fun h => C1.out h.2.1)
   clear er
   go_enter Tryz.func90, Tryz.ntmps90
   go_wp2_with fail
   (with_reducible refine (NM.out _ S0.out.below).mono ?_)
   rintro e w1 ⟨rfl, hb⟩
   have S1 := Lib.hid (S0.out.next hb)
   obtain ⟨-, -, y0, y1, y2, y3⟩ := id S1.out
   clear hb
   go_wp2_with fail
   go_ret
   exact ⟨rfl, S1.out.below⟩
 ·rw [Bool.eq_false_iff.2 c0] at NM
  have C0 := Lib.hid c0
  clear c0
  obtain rfl : r = false := by rw [er]; exact decide_eq_false (fun h => C0.out h.1)
  clear er
  go_enter Tryz.func90, Tryz.ntmps90
  go_wp2_with fail
  (with_reducible refine (NM.out _ S0.out.below).mono ?_)
  rintro e w1 ⟨rfl, hb⟩
  have S1 := Lib.hid (S0.out.next hb)
  obtain ⟨-, -, y0, y1, y2, y3⟩ := id S1.out
  clear hb
  go_wp2_with fail
  go_ret
  exact ⟨rfl, S1.out.below⟩

theorem isItem_5 (t : M.Tree) (f : Nat) (hp : ∀ u, u ∈ t.kids -> FnC 91 (M.exprF f) u) (hq : ∀ u, u ∈ t.kids -> FnC 89 (M.blockB (M.itemF f)) u) (hkind : t.kind = 5) : FnC 90 (M.itemF (f + 1)) t := by
 intro v w hv
 have hv0 := hv
 have hud := hud9
 obtain ⟨T, kv, rfl, hT, hok, hk⟩ := hv
 obtain ⟨r, er⟩ : ∃ r, r = (M.itemF (f + 1)) t := ⟨_, rfl⟩
 rw [<- er]
 rw [M.itemF, if_neg (show ¬ t.kind = 2 by omega), if_neg (show ¬ t.kind = 3 by omega), if_neg (show ¬ t.kind = 4 by omega), if_pos hkind] at er
 obtain ⟨K, eK⟩ : ∃ K, K = t.kind := ⟨_, rfl⟩
 obtain ⟨tx, ex⟩ : ∃ x, x = t.text := ⟨_, rfl⟩
 obtain ⟨n, en⟩ : ∃ n, n = t.num := ⟨_, rfl⟩
 obtain ⟨l, el⟩ : ∃ l, l = t.kids := ⟨_, rfl⟩
 try rw [<- eK] at er
 try rw [<- ex] at er
 try rw [<- en] at er
 try rw [<- el] at er
 rw [<- eK, <- en] at hv0 ⊢
 rw [<- ex] at hT
 rw [<- el] at hk
 obtain ⟨A, cap, rfl, _⟩ := id hk
 have HE := Lib.hid (M.bs_empty hT)
 have HTX := Lib.hid hT
 have hn := hok.2.1
 have hsz := hok.2.2
 rw [<- en] at hn
 have S0 := Lib.hid (NB.start w K T n (.slice A l.length cap))
 have hK : K = 5 := eK.trans hkind
 have gk2 : (K == 2) = false := by rw [beq_eq_false_iff_ne]; omega
 have gk3 : (K == 3) = false := by rw [beq_eq_false_iff_ne]; omega
 have gk4 : (K == 4) = false := by rw [beq_eq_false_iff_ne]; omega
 have gk5 : (K == 5) = true := by rw [beq_iff_eq]; omega
 have NM := Lib.hid fun w' (_ : Below w.heap.size w w') => rname9_any T w' hsz
 rw [hT] at NM
 have AL := Lib.hid fun w' (hb : Below w.heap.size w w') => rall9_any (c := 5) (p := M.exprF f) l (fun i hi => is_5 (hp (l.getD i M.Tree.no) (by rw [<- el]; exact kid_mem hi))) (.slice A l.length cap) w' (hk.below hb)
 clear hK hp hq
 have HKK := Lib.hid hk
 clear hT hok hk eK ex en el hsz hv0
 by_cases c0 : M.nameOk tx = true
 ·rw [c0] at NM
  have C0 := Lib.hid c0
  clear c0
  by_cases c1 : n = 0
  ·have gn0 : ((n : Int) == 0) = true := by rw [beq_iff_eq]; omega
   have C1 := Lib.hid c1
   clear c1
   by_cases c2 : l.length = 2
   ·have gl : ((l.length : Int) == 2) = true := by rw [beq_iff_eq]; omega
    have C2 := Lib.hid c2
    clear c2
    by_cases c3 : l.all (M.exprF f) = true
    ·rw [c3] at AL
     have C3 := Lib.hid c3
     clear c3
     obtain rfl : r = true := by rw [er]; exact decide_eq_true ⟨C0.out, C1.out, C2.out, C3.out⟩
     clear er
     go_enter Tryz.func90, Tryz.ntmps90
     go_wp2_with fail
     (with_reducible refine (NM.out _ S0.out.below).mono ?_)
     rintro e w1 ⟨rfl, hb⟩
     have S1 := Lib.hid (S0.out.next hb)
     obtain ⟨-, -, y0, y1, y2, y3⟩ := id S1.out
     clear hb
     go_wp2_with fail
     (with_reducible refine (AL.out _ S1.out.below).mono ?_)
     rintro e w2 ⟨rfl, hb⟩
     have S2 := Lib.hid (S1.out.next hb)
     obtain ⟨-, -, y0, y1, y2, y3⟩ := id S2.out
     clear hb
     go_wp2_with fail
     go_ret
     exact ⟨rfl, S2.out.below⟩
    ·rw [Bool.eq_false_iff.2 c3] at AL
     have C3 := Lib.hid c3
     clear c3
     obtain rfl : r = false := by rw [er]; exact decide_eq_false (fun h => C3.out h.2.2.2)
     clear er
     go_enter Tryz.func90, Tryz.ntmps90
     go_wp2_with fail
     (with_reducible refine (NM.out _ S0.out.below).mono ?_)
     rintro e w1 ⟨rfl, hb⟩
     have S1 := Lib.hid (S0.out.next hb)
     obtain ⟨-, -, y0, y1, y2, y3⟩ := id S1.out
     clear hb
     go_wp2_with fail
     (with_reducible refine (AL.out _ S1.out.below).mono ?_)
     rintro e w2 ⟨rfl, hb⟩
     have S2 := Lib.hid (S1.out.next hb)
     obtain ⟨-, -, y0, y1, y2, y3⟩ := id S2.out
     clear hb
     go_wp2_with fail
     go_ret
     exact ⟨rfl, S2.out.below⟩
   ·have gl : ((l.length : Int) == 2) = false := by rw [beq_eq_false_iff_ne]; omega
    have C2 := Lib.hid c2
    clear c2
    obtain rfl : r = false := by rw [er]; exact decide_eq_false (fun h => C2.out h.2.2.1)
    clear er
    go_enter Tryz.func90, Tryz.ntmps90
    go_wp2_with fail
    (with_reducible refine (NM.out _ S0.out.below).mono ?_)
    rintro e w1 ⟨rfl, hb⟩
    have S1 := Lib.hid (S0.out.next hb)
    obtain ⟨-, -, y0, y1, y2, y3⟩ := id S1.out
    clear hb
    go_wp2_with fail
    go_ret
    exact ⟨rfl, S1.out.below⟩
  ·have gn0 : ((n : Int) == 0) = false := by rw [beq_eq_false_iff_ne]; omega
   have C1 := Lib.hid c1
   clear c1
   obtain rfl : r = false := by rw [er]; exact decide_eq_false (fun h => C1.out h.2.1)
   clear er
   go_enter Tryz.func90, Tryz.ntmps90
   go_wp2_with fail
   (with_reducible refine (NM.out _ S0.out.below).mono ?_)
   rintro e w1 ⟨rfl, hb⟩
   have S1 := Lib.hid (S0.out.next hb)
   obtain ⟨-, -, y0, y1, y2, y3⟩ := id S1.out
   clear hb
   go_wp2_with fail
   go_ret
   exact ⟨rfl, S1.out.below⟩
 ·rw [Bool.eq_false_iff.2 c0] at NM
  have C0 := Lib.hid c0
  clear c0
  obtain rfl : r = false := by rw [er]; exact decide_eq_false (fun h => C0.out h.1)
  clear er
  go_enter Tryz.func90, Tryz.ntmps90
  go_wp2_with fail
  (with_reducible refine (NM.out _ S0.out.below).mono ?_)
  rintro e w1 ⟨rfl, hb⟩
  have S1 := Lib.hid (S0.out.next hb)
  obtain ⟨-, -, y0, y1, y2, y3⟩ := id S1.out
  clear hb
  go_wp2_with fail
  go_ret
  exact ⟨rfl, S1.out.below⟩
open Go.RowKit
theorem cut_mem {l : List M.Tree} {i j k : Nat} (h : k < ((l.drop i).take j).length) : ((l.drop i).take j).getD k M.Tree.no ∈ l :=
 List.mem_of_mem_drop (List.mem_of_mem_take (kid_mem h))

theorem isItem_6 (t : M.Tree) (f : Nat) (hp : ∀ u, u ∈ t.kids -> FnC 91 (M.exprF f) u) (hq : ∀ u, u ∈ t.kids -> FnC 89 (M.blockB (M.itemF f)) u) (hkind : t.kind = 6) : FnC 90 (M.itemF (f + 1)) t := by
 intro v w hv
 have hv0 := hv
 have hud := hud9
 obtain ⟨T, kv, rfl, hT, hok, hk⟩ := hv
 obtain ⟨r, er⟩ : ∃ r, r = (M.itemF (f + 1)) t := ⟨_, rfl⟩
 rw [<- er]
 rw [M.itemF, if_neg (show ¬ t.kind = 2 by omega), if_neg (show ¬ t.kind = 3 by omega), if_neg (show ¬ t.kind = 4 by omega), if_neg (show ¬ t.kind = 5 by omega), if_pos hkind] at er
 obtain ⟨K, eK⟩ : ∃ K, K = t.kind := ⟨_, rfl⟩
 obtain ⟨tx, ex⟩ : ∃ x, x = t.text := ⟨_, rfl⟩
 obtain ⟨n, en⟩ : ∃ n, n = t.num := ⟨_, rfl⟩
 obtain ⟨l, el⟩ : ∃ l, l = t.kids := ⟨_, rfl⟩
 try rw [<- eK] at er
 try rw [<- ex] at er
 try rw [<- en] at er
 try rw [<- el] at er
 rw [<- eK, <- en] at hv0 ⊢
 rw [<- ex] at hT
 rw [<- el] at hk
 obtain ⟨A, cap, rfl, _⟩ := id hk
 have HE := Lib.hid (M.bs_empty hT)
 have HTX := Lib.hid hT
 have hn := hok.2.1
 have hsz := hok.2.2
 rw [<- en] at hn
 have S0 := Lib.hid (NB.start w K T n (.slice A l.length cap))
 have hK : K = 6 := eK.trans hkind
 have gk2 : (K == 2) = false := by rw [beq_eq_false_iff_ne]; omega
 have gk3 : (K == 3) = false := by rw [beq_eq_false_iff_ne]; omega
 have gk4 : (K == 4) = false := by rw [beq_eq_false_iff_ne]; omega
 have gk5 : (K == 5) = false := by rw [beq_eq_false_iff_ne]; omega
 have gk6 : (K == 6) = true := by rw [beq_iff_eq]; omega
 have NM := Lib.hid fun w' (_ : Below w.heap.size w w') => rname9_any T w' hsz
 rw [hT] at NM
 have HPP := Lib.hid fun i (hi : i < l.length) => hp (l.getD i M.Tree.no) (by rw [<- el]; exact kid_mem hi)
 have HQQ := Lib.hid fun i (hi : i < l.length) => hq (l.getD i M.Tree.no) (by rw [<- el]; exact kid_mem hi)
 have HPL := Lib.hid (show ∀ u, u ∈ l -> FnC 91 (M.exprF f) u from fun u hu => hp u (by rw [<- el]; exact hu))
 have HQL := Lib.hid (show ∀ u, u ∈ l -> FnC 89 (M.blockB (M.itemF f)) u from fun u hu => hq u (by rw [<- el]; exact hu))
 clear hK hp hq
 have HKK := Lib.hid hk
 clear hT hok hk eK ex en el hsz hv0
 by_cases c0 : M.nameOk tx = true
 ·rw [c0] at NM
  have C0 := Lib.hid c0
  clear c0
  by_cases c1 : tx = []
  ·have gt : T.toList.isEmpty = true := by rw [HE.out, decide_eq_true c1]
   have C1 := Lib.hid c1
   clear c1
   by_cases c2 : n = 0
   ·have gn0 : ((n : Int) == 0) = true := by rw [beq_iff_eq]; omega
    have C2 := Lib.hid c2
    clear c2
    by_cases c3 : l.length = 3
    ·have gl : ((l.length : Int) == 3) = true := by rw [beq_iff_eq]; omega
     obtain ⟨ba, oa, Ta, Aa, ma, cca, hAa, al, a0, a1, a2, a3, av⟩ := HKK.out.at 0 (by omega)
     cases hAa
     obtain ⟨ua, eua⟩ : ∃ u, u = l.getD 0 M.Tree.no := ⟨_, rfl⟩
     rw [<- eua] at a0 a2 av er
     obtain ⟨ka, eka⟩ : ∃ k, k = ua.kind := ⟨_, rfl⟩
     obtain ⟨na, ena⟩ : ∃ k, k = ua.num := ⟨_, rfl⟩
     rw [<- eka] at a0 av
     rw [<- ena] at a2 av
     simp only [show 0 * 4 = 0 from rfl, Nat.add_zero] at a0 a1 a2 a3
     have hia : 0 < l.length := by omega
     have Va := Lib.hid av
     have hpa := HPP.out 0 (by omega)
     rw [<- eua] at hpa
     have EX := Lib.hid fun w' (hb : Below w.heap.size w w') => hpa _ w' (Va.out.below hb)
     clear hpa
     clear av eua eka ena
     obtain ⟨qa0, qa1, qa2, qa3⟩ := bel4 S0.out.below al a0 a1 a2 a3
     have hcap : l.length <= cap := HKK.out.kid.2.1
     have hcne : cap ≠ 1 := by omega
     have hcpos : 0 < cap - 1 := by omega
     have DR := Lib.hid fun w' (hb : Below w.heap.size w w') => rall9_any (c := 3) (p := M.blockB (M.itemF f)) ((l.drop 1).take (l.length - 1)) (fun k hk => is_3 (HQL.out _ (cut_mem hk))) (.slice (some ⟨ba, oa + 1 * 4, none⟩) (l.length - 1) (cap - 1)) w' ((HKK.out.cut 1 l.length (by omega) (by omega)).below hb)
     rw [List.take_of_length_le (by simp), Nat.one_mul] at DR
     have C3 := Lib.hid c3
     clear c3
     by_cases c4 : M.exprF f ua = true
     ·rw [c4] at EX
      have C4 := Lib.hid c4
      clear c4
      by_cases c5 : (l.drop 1).all (M.blockB (M.itemF f)) = true
      ·rw [c5] at DR
       have C5 := Lib.hid c5
       clear c5
       obtain rfl : r = true := by rw [er]; exact decide_eq_true ⟨C1.out, C2.out, C3.out, C4.out, C5.out⟩
       clear er
       go_enter Tryz.func90, Tryz.ntmps90
       go_wp2_with fail
       (with_reducible refine (NM.out _ S0.out.below).mono ?_)
       rintro e w1 ⟨rfl, hb⟩
       have S1 := Lib.hid (S0.out.next hb)
       obtain ⟨-, -, y0, y1, y2, y3⟩ := id S1.out
       obtain ⟨qa0, qa1, qa2, qa3⟩ := bel4 S1.out.below al a0 a1 a2 a3
       clear hb
       go_wp2_with fail
       (with_reducible refine (EX.out _ S1.out.below).mono ?_)
       rintro e w2 ⟨rfl, hb⟩
       have S2 := Lib.hid (S1.out.next hb)
       obtain ⟨-, -, y0, y1, y2, y3⟩ := id S2.out
       obtain ⟨qa0, qa1, qa2, qa3⟩ := bel4 S2.out.below al a0 a1 a2 a3
       clear hb
       go_wp2_with fail
       (with_reducible refine (DR.out _ S2.out.below).mono ?_)
       rintro e w3 ⟨rfl, hb⟩
       have S3 := Lib.hid (S2.out.next hb)
       obtain ⟨-, -, y0, y1, y2, y3⟩ := id S3.out
       obtain ⟨qa0, qa1, qa2, qa3⟩ := bel4 S3.out.below al a0 a1 a2 a3
       clear hb
       go_wp2_with fail
       go_ret
       exact ⟨rfl, S3.out.below⟩
      ·rw [Bool.eq_false_iff.2 c5] at DR
       have C5 := Lib.hid c5
       clear c5
       obtain rfl : r = false := by rw [er]; exact decide_eq_false (fun h => C5.out h.2.2.2.2)
       clear er
       go_enter Tryz.func90, Tryz.ntmps90
       go_wp2_with fail
       (with_reducible refine (NM.out _ S0.out.below).mono ?_)
       rintro e w1 ⟨rfl, hb⟩
       have S1 := Lib.hid (S0.out.next hb)
       obtain ⟨-, -, y0, y1, y2, y3⟩ := id S1.out
       obtain ⟨qa0, qa1, qa2, qa3⟩ := bel4 S1.out.below al a0 a1 a2 a3
       clear hb
       go_wp2_with fail
       (with_reducible refine (EX.out _ S1.out.below).mono ?_)
       rintro e w2 ⟨rfl, hb⟩
       have S2 := Lib.hid (S1.out.next hb)
       obtain ⟨-, -, y0, y1, y2, y3⟩ := id S2.out
       obtain ⟨qa0, qa1, qa2, qa3⟩ := bel4 S2.out.below al a0 a1 a2 a3
       clear hb
       go_wp2_with fail
       (with_reducible refine (DR.out _ S2.out.below).mono ?_)
       rintro e w3 ⟨rfl, hb⟩
       have S3 := Lib.hid (S2.out.next hb)
       obtain ⟨-, -, y0, y1, y2, y3⟩ := id S3.out
       obtain ⟨qa0, qa1, qa2, qa3⟩ := bel4 S3.out.below al a0 a1 a2 a3
       clear hb
       go_wp2_with fail
       go_ret
       exact ⟨rfl, S3.out.below⟩
     ·rw [Bool.eq_false_iff.2 c4] at EX
      have C4 := Lib.hid c4
      clear c4
      obtain rfl : r = false := by rw [er]; exact decide_eq_false (fun h => C4.out h.2.2.2.1)
      clear er
      go_enter Tryz.func90, Tryz.ntmps90
      go_wp2_with fail
      (with_reducible refine (NM.out _ S0.out.below).mono ?_)
      rintro e w1 ⟨rfl, hb⟩
      have S1 := Lib.hid (S0.out.next hb)
      obtain ⟨-, -, y0, y1, y2, y3⟩ := id S1.out
      obtain ⟨qa0, qa1, qa2, qa3⟩ := bel4 S1.out.below al a0 a1 a2 a3
      clear hb
      go_wp2_with fail
      (with_reducible refine (EX.out _ S1.out.below).mono ?_)
      rintro e w2 ⟨rfl, hb⟩
      have S2 := Lib.hid (S1.out.next hb)
      obtain ⟨-, -, y0, y1, y2, y3⟩ := id S2.out
      obtain ⟨qa0, qa1, qa2, qa3⟩ := bel4 S2.out.below al a0 a1 a2 a3
      clear hb
      go_wp2_with fail
      go_ret
      exact ⟨rfl, S2.out.below⟩
    ·have gl : ((l.length : Int) == 3) = false := by rw [beq_eq_false_iff_ne]; omega
     have C3 := Lib.hid c3
     clear c3
     obtain rfl : r = false := by rw [er]; exact decide_eq_false (fun h => C3.out h.2.2.1)
     clear er
     go_enter Tryz.func90, Tryz.ntmps90
     go_wp2_with fail
     (with_reducible refine (NM.out _ S0.out.below).mono ?_)
     rintro e w1 ⟨rfl, hb⟩
     have S1 := Lib.hid (S0.out.next hb)
     obtain ⟨-, -, y0, y1, y2, y3⟩ := id S1.out
     clear hb
     go_wp2_with fail
     go_ret
     exact ⟨rfl, S1.out.below⟩
   ·have gn0 : ((n : Int) == 0) = false := by rw [beq_eq_false_iff_ne]; omega
    have C2 := Lib.hid c2
    clear c2
    obtain rfl : r = false := by rw [er]; exact decide_eq_false (fun h => C2.out h.2.1)
    clear er
    go_enter Tryz.func90, Tryz.ntmps90
    go_wp2_with fail
    (with_reducible refine (NM.out _ S0.out.below).mono ?_)
    rintro e w1 ⟨rfl, hb⟩
    have S1 := Lib.hid (S0.out.next hb)
    obtain ⟨-, -, y0, y1, y2, y3⟩ := id S1.out
    clear hb
    go_wp2_with fail
    go_ret
    exact ⟨rfl, S1.out.below⟩
  ·have gt : T.toList.isEmpty = false := by rw [HE.out, decide_eq_false c1]
   have C1 := Lib.hid c1
   clear c1
   obtain rfl : r = false := by rw [er]; exact decide_eq_false (fun h => C1.out h.1)
   clear er
   go_enter Tryz.func90, Tryz.ntmps90
   go_wp2_with fail
   (with_reducible refine (NM.out _ S0.out.below).mono ?_)
   rintro e w1 ⟨rfl, hb⟩
   have S1 := Lib.hid (S0.out.next hb)
   obtain ⟨-, -, y0, y1, y2, y3⟩ := id S1.out
   clear hb
   go_wp2_with fail
   go_ret
   exact ⟨rfl, S1.out.below⟩
 ·rw [Bool.eq_false_iff.2 c0] at NM
  have C0 := Lib.hid c0
  clear c0
  by_cases c1 : tx = []
  ·have gt : T.toList.isEmpty = true := by rw [HE.out, decide_eq_true c1]
   have C1 := Lib.hid c1
   clear c1
   by_cases c2 : n = 0
   ·have gn0 : ((n : Int) == 0) = true := by rw [beq_iff_eq]; omega
    have C2 := Lib.hid c2
    clear c2
    by_cases c3 : l.length = 3
    ·have gl : ((l.length : Int) == 3) = true := by rw [beq_iff_eq]; omega
     obtain ⟨ba, oa, Ta, Aa, ma, cca, hAa, al, a0, a1, a2, a3, av⟩ := HKK.out.at 0 (by omega)
     cases hAa
     obtain ⟨ua, eua⟩ : ∃ u, u = l.getD 0 M.Tree.no := ⟨_, rfl⟩
     rw [<- eua] at a0 a2 av er
     obtain ⟨ka, eka⟩ : ∃ k, k = ua.kind := ⟨_, rfl⟩
     obtain ⟨na, ena⟩ : ∃ k, k = ua.num := ⟨_, rfl⟩
     rw [<- eka] at a0 av
     rw [<- ena] at a2 av
     simp only [show 0 * 4 = 0 from rfl, Nat.add_zero] at a0 a1 a2 a3
     have hia : 0 < l.length := by omega
     have Va := Lib.hid av
     have hpa := HPP.out 0 (by omega)
     rw [<- eua] at hpa
     have EX := Lib.hid fun w' (hb : Below w.heap.size w w') => hpa _ w' (Va.out.below hb)
     clear hpa
     clear av eua eka ena
     obtain ⟨qa0, qa1, qa2, qa3⟩ := bel4 S0.out.below al a0 a1 a2 a3
     have hcap : l.length <= cap := HKK.out.kid.2.1
     have hcne : cap ≠ 1 := by omega
     have hcpos : 0 < cap - 1 := by omega
     have DR := Lib.hid fun w' (hb : Below w.heap.size w w') => rall9_any (c := 3) (p := M.blockB (M.itemF f)) ((l.drop 1).take (l.length - 1)) (fun k hk => is_3 (HQL.out _ (cut_mem hk))) (.slice (some ⟨ba, oa + 1 * 4, none⟩) (l.length - 1) (cap - 1)) w' ((HKK.out.cut 1 l.length (by omega) (by omega)).below hb)
     rw [List.take_of_length_le (by simp), Nat.one_mul] at DR
     have C3 := Lib.hid c3
     clear c3
     by_cases c4 : M.exprF f ua = true
     ·rw [c4] at EX
      have C4 := Lib.hid c4
      clear c4
      by_cases c5 : (l.drop 1).all (M.blockB (M.itemF f)) = true
      ·rw [c5] at DR
       have C5 := Lib.hid c5
       clear c5
       obtain rfl : r = true := by rw [er]; exact decide_eq_true ⟨C1.out, C2.out, C3.out, C4.out, C5.out⟩
       clear er
       go_enter Tryz.func90, Tryz.ntmps90
       go_wp2_with fail
       (with_reducible refine (NM.out _ S0.out.below).mono ?_)
       rintro e w1 ⟨rfl, hb⟩
       have S1 := Lib.hid (S0.out.next hb)
       obtain ⟨-, -, y0, y1, y2, y3⟩ := id S1.out
       obtain ⟨qa0, qa1, qa2, qa3⟩ := bel4 S1.out.below al a0 a1 a2 a3
       clear hb
       go_wp2_with fail
       (with_reducible refine (EX.out _ S1.out.below).mono ?_)
       rintro e w2 ⟨rfl, hb⟩
       have S2 := Lib.hid (S1.out.next hb)
       obtain ⟨-, -, y0, y1, y2, y3⟩ := id S2.out
       obtain ⟨qa0, qa1, qa2, qa3⟩ := bel4 S2.out.below al a0 a1 a2 a3
       clear hb
       go_wp2_with fail
       (with_reducible refine (DR.out _ S2.out.below).mono ?_)
       rintro e w3 ⟨rfl, hb⟩
       have S3 := Lib.hid (S2.out.next hb)
       obtain ⟨-, -, y0, y1, y2, y3⟩ := id S3.out
       obtain ⟨qa0, qa1, qa2, qa3⟩ := bel4 S3.out.below al a0 a1 a2 a3
       clear hb
       go_wp2_with fail
       go_ret
       exact ⟨rfl, S3.out.below⟩
      ·rw [Bool.eq_false_iff.2 c5] at DR
       have C5 := Lib.hid c5
       clear c5
       obtain rfl : r = false := by rw [er]; exact decide_eq_false (fun h => C5.out h.2.2.2.2)
       clear er
       go_enter Tryz.func90, Tryz.ntmps90
       go_wp2_with fail
       (with_reducible refine (NM.out _ S0.out.below).mono ?_)
       rintro e w1 ⟨rfl, hb⟩
       have S1 := Lib.hid (S0.out.next hb)
       obtain ⟨-, -, y0, y1, y2, y3⟩ := id S1.out
       obtain ⟨qa0, qa1, qa2, qa3⟩ := bel4 S1.out.below al a0 a1 a2 a3
       clear hb
       go_wp2_with fail
       (with_reducible refine (EX.out _ S1.out.below).mono ?_)
       rintro e w2 ⟨rfl, hb⟩
       have S2 := Lib.hid (S1.out.next hb)
       obtain ⟨-, -, y0, y1, y2, y3⟩ := id S2.out
       obtain ⟨qa0, qa1, qa2, qa3⟩ := bel4 S2.out.below al a0 a1 a2 a3
       clear hb
       go_wp2_with fail
       (with_reducible refine (DR.out _ S2.out.below).mono ?_)
       rintro e w3 ⟨rfl, hb⟩
       have S3 := Lib.hid (S2.out.next hb)
       obtain ⟨-, -, y0, y1, y2, y3⟩ := id S3.out
       obtain ⟨qa0, qa1, qa2, qa3⟩ := bel4 S3.out.below al a0 a1 a2 a3
       clear hb
       go_wp2_with fail
       go_ret
       exact ⟨rfl, S3.out.below⟩
     ·rw [Bool.eq_false_iff.2 c4] at EX
      have C4 := Lib.hid c4
      clear c4
      obtain rfl : r = false := by rw [er]; exact decide_eq_false (fun h => C4.out h.2.2.2.1)
      clear er
      go_enter Tryz.func90, Tryz.ntmps90
      go_wp2_with fail
      (with_reducible refine (NM.out _ S0.out.below).mono ?_)
      rintro e w1 ⟨rfl, hb⟩
      have S1 := Lib.hid (S0.out.next hb)
      obtain ⟨-, -, y0, y1, y2, y3⟩ := id S1.out
      obtain ⟨qa0, qa1, qa2, qa3⟩ := bel4 S1.out.below al a0 a1 a2 a3
      clear hb
      go_wp2_with fail
      (with_reducible refine (EX.out _ S1.out.below).mono ?_)
      rintro e w2 ⟨rfl, hb⟩
      have S2 := Lib.hid (S1.out.next hb)
      obtain ⟨-, -, y0, y1, y2, y3⟩ := id S2.out
      obtain ⟨qa0, qa1, qa2, qa3⟩ := bel4 S2.out.below al a0 a1 a2 a3
      clear hb
      go_wp2_with fail
      go_ret
      exact ⟨rfl, S2.out.below⟩
    ·have gl : ((l.length : Int) == 3) = false := by rw [beq_eq_false_iff_ne]; omega
     have C3 := Lib.hid c3
     clear c3
     obtain rfl : r = false := by rw [er]; exact decide_eq_false (fun h => C3.out h.2.2.1)
     clear er
     go_enter Tryz.func90, Tryz.ntmps90
     go_wp2_with fail
     (with_reducible refine (NM.out _ S0.out.below).mono ?_)
     rintro e w1 ⟨rfl, hb⟩
     have S1 := Lib.hid (S0.out.next hb)
     obtain ⟨-, -, y0, y1, y2, y3⟩ := id S1.out
     clear hb
     go_wp2_with fail
     go_ret
     exact ⟨rfl, S1.out.below⟩
   ·have gn0 : ((n : Int) == 0) = false := by rw [beq_eq_false_iff_ne]; omega
    have C2 := Lib.hid c2
    clear c2
    obtain rfl : r = false := by rw [er]; exact decide_eq_false (fun h => C2.out h.2.1)
    clear er
    go_enter Tryz.func90, Tryz.ntmps90
    go_wp2_with fail
    (with_reducible refine (NM.out _ S0.out.below).mono ?_)
    rintro e w1 ⟨rfl, hb⟩
    have S1 := Lib.hid (S0.out.next hb)
    obtain ⟨-, -, y0, y1, y2, y3⟩ := id S1.out
    clear hb
    go_wp2_with fail
    go_ret
    exact ⟨rfl, S1.out.below⟩
  ·have gt : T.toList.isEmpty = false := by rw [HE.out, decide_eq_false c1]
   have C1 := Lib.hid c1
   clear c1
   obtain rfl : r = false := by rw [er]; exact decide_eq_false (fun h => C1.out h.1)
   clear er
   go_enter Tryz.func90, Tryz.ntmps90
   go_wp2_with fail
   (with_reducible refine (NM.out _ S0.out.below).mono ?_)
   rintro e w1 ⟨rfl, hb⟩
   have S1 := Lib.hid (S0.out.next hb)
   obtain ⟨-, -, y0, y1, y2, y3⟩ := id S1.out
   clear hb
   go_wp2_with fail
   go_ret
   exact ⟨rfl, S1.out.below⟩

theorem isItem_7 (t : M.Tree) (f : Nat) (hp : ∀ u, u ∈ t.kids -> FnC 91 (M.exprF f) u) (hq : ∀ u, u ∈ t.kids -> FnC 89 (M.blockB (M.itemF f)) u) (hkind : t.kind = 7) : FnC 90 (M.itemF (f + 1)) t := by
 intro v w hv
 have hv0 := hv
 have hud := hud9
 obtain ⟨T, kv, rfl, hT, hok, hk⟩ := hv
 obtain ⟨r, er⟩ : ∃ r, r = (M.itemF (f + 1)) t := ⟨_, rfl⟩
 rw [<- er]
 rw [M.itemF, if_neg (show ¬ t.kind = 2 by omega), if_neg (show ¬ t.kind = 3 by omega), if_neg (show ¬ t.kind = 4 by omega), if_neg (show ¬ t.kind = 5 by omega), if_neg (show ¬ t.kind = 6 by omega), if_pos hkind] at er
 obtain ⟨K, eK⟩ : ∃ K, K = t.kind := ⟨_, rfl⟩
 obtain ⟨tx, ex⟩ : ∃ x, x = t.text := ⟨_, rfl⟩
 obtain ⟨n, en⟩ : ∃ n, n = t.num := ⟨_, rfl⟩
 obtain ⟨l, el⟩ : ∃ l, l = t.kids := ⟨_, rfl⟩
 try rw [<- eK] at er
 try rw [<- ex] at er
 try rw [<- en] at er
 try rw [<- el] at er
 rw [<- eK, <- en] at hv0 ⊢
 rw [<- ex] at hT
 rw [<- el] at hk
 obtain ⟨A, cap, rfl, _⟩ := id hk
 have HE := Lib.hid (M.bs_empty hT)
 have HTX := Lib.hid hT
 have hn := hok.2.1
 have hsz := hok.2.2
 rw [<- en] at hn
 have S0 := Lib.hid (NB.start w K T n (.slice A l.length cap))
 have hK : K = 7 := eK.trans hkind
 have gk2 : (K == 2) = false := by rw [beq_eq_false_iff_ne]; omega
 have gk3 : (K == 3) = false := by rw [beq_eq_false_iff_ne]; omega
 have gk4 : (K == 4) = false := by rw [beq_eq_false_iff_ne]; omega
 have gk5 : (K == 5) = false := by rw [beq_eq_false_iff_ne]; omega
 have gk6 : (K == 6) = false := by rw [beq_eq_false_iff_ne]; omega
 have gk7 : (K == 7) = true := by rw [beq_iff_eq]; omega
 have NM := Lib.hid fun w' (_ : Below w.heap.size w w') => rname9_any T w' hsz
 rw [hT] at NM
 have HPP := Lib.hid fun i (hi : i < l.length) => hp (l.getD i M.Tree.no) (by rw [<- el]; exact kid_mem hi)
 have HQQ := Lib.hid fun i (hi : i < l.length) => hq (l.getD i M.Tree.no) (by rw [<- el]; exact kid_mem hi)
 have HPL := Lib.hid (show ∀ u, u ∈ l -> FnC 91 (M.exprF f) u from fun u hu => hp u (by rw [<- el]; exact hu))
 have HQL := Lib.hid (show ∀ u, u ∈ l -> FnC 89 (M.blockB (M.itemF f)) u from fun u hu => hq u (by rw [<- el]; exact hu))
 clear hK hp hq
 have HKK := Lib.hid hk
 clear hT hok hk eK ex en el hsz hv0
 by_cases c0 : M.nameOk tx = true
 ·rw [c0] at NM
  have C0 := Lib.hid c0
  clear c0
  by_cases c1 : n = 0
  ·have gn0 : ((n : Int) == 0) = true := by rw [beq_iff_eq]; omega
   have C1 := Lib.hid c1
   clear c1
   by_cases c2 : l.length = 3
   ·have gl : ((l.length : Int) == 3) = true := by rw [beq_iff_eq]; omega
    obtain ⟨ba, oa, Ta, Aa, ma, cca, hAa, al, a0, a1, a2, a3, av⟩ := HKK.out.at 2 (by omega)
    cases hAa
    obtain ⟨ua, eua⟩ : ∃ u, u = l.getD 2 M.Tree.no := ⟨_, rfl⟩
    rw [<- eua] at a0 a2 av er
    obtain ⟨ka, eka⟩ : ∃ k, k = ua.kind := ⟨_, rfl⟩
    obtain ⟨na, ena⟩ : ∃ k, k = ua.num := ⟨_, rfl⟩
    rw [<- eka] at a0 av
    rw [<- ena] at a2 av
    simp only [show 2 * 4 = 8 from rfl] at a0 a1 a2 a3
    have hia : 2 < l.length := by omega
    have Va := Lib.hid av
    have hpa := HQQ.out 2 (by omega)
    rw [<- eua] at hpa
    have BX := Lib.hid fun w' (hb : Below w.heap.size w w') => hpa _ w' (Va.out.below hb)
    clear hpa
    clear av eua eka ena
    obtain ⟨qa0, qa1, qa2, qa3⟩ := bel4 S0.out.below al a0 a1 a2 a3
    have hcap : l.length <= cap := HKK.out.kid.2.1
    have hcne : cap ≠ 1 := by omega
    have hcpos : 0 < cap - 1 := by omega
    have DR := Lib.hid fun w' (hb : Below w.heap.size w w') => rall9_any (c := 5) (p := M.exprF f) ((l.drop 0).take (2 - 0)) (fun k hk => is_5 (HPL.out _ (cut_mem hk))) (.slice (some ⟨ba, oa + 0 * 4, none⟩) (2 - 0) (cap - 0)) w' ((HKK.out.cut 0 2 (by omega) (by omega)).below hb)
    rw [List.drop_zero, Nat.zero_mul, Nat.add_zero, Nat.sub_zero, Nat.sub_zero] at DR
    have C2 := Lib.hid c2
    clear c2
    by_cases c3 : (l.take 2).all (M.exprF f) = true
    ·rw [c3] at DR
     have C3 := Lib.hid c3
     clear c3
     by_cases c4 : M.blockB (M.itemF f) ua = true
     ·rw [c4] at BX
      have C4 := Lib.hid c4
      clear c4
      obtain rfl : r = true := by rw [er]; exact decide_eq_true ⟨C0.out, C1.out, C2.out, C3.out, C4.out⟩
      clear er
      go_enter Tryz.func90, Tryz.ntmps90
      go_wp2_with fail
      (with_reducible refine (NM.out _ S0.out.below).mono ?_)
      rintro e w1 ⟨rfl, hb⟩
      have S1 := Lib.hid (S0.out.next hb)
      obtain ⟨-, -, y0, y1, y2, y3⟩ := id S1.out
      obtain ⟨qa0, qa1, qa2, qa3⟩ := bel4 S1.out.below al a0 a1 a2 a3
      clear hb
      go_wp2_with fail
      (with_reducible refine (DR.out _ S1.out.below).mono ?_)
      rintro e w2 ⟨rfl, hb⟩
      have S2 := Lib.hid (S1.out.next hb)
      obtain ⟨-, -, y0, y1, y2, y3⟩ := id S2.out
      obtain ⟨qa0, qa1, qa2, qa3⟩ := bel4 S2.out.below al a0 a1 a2 a3
      clear hb
      go_wp2_with fail
      (with_reducible refine (BX.out _ S2.out.below).mono ?_)
      rintro e w3 ⟨rfl, hb⟩
      have S3 := Lib.hid (S2.out.next hb)
      obtain ⟨-, -, y0, y1, y2, y3⟩ := id S3.out
      obtain ⟨qa0, qa1, qa2, qa3⟩ := bel4 S3.out.below al a0 a1 a2 a3
      clear hb
      go_wp2_with fail
      go_ret
      exact ⟨rfl, S3.out.below⟩
     ·rw [Bool.eq_false_iff.2 c4] at BX
      have C4 := Lib.hid c4
      clear c4
      obtain rfl : r = false := by rw [er]; exact decide_eq_false (fun h => C4.out h.2.2.2.2)
      clear er
      go_enter Tryz.func90, Tryz.ntmps90
      go_wp2_with fail
      (with_reducible refine (NM.out _ S0.out.below).mono ?_)
      rintro e w1 ⟨rfl, hb⟩
      have S1 := Lib.hid (S0.out.next hb)
      obtain ⟨-, -, y0, y1, y2, y3⟩ := id S1.out
      obtain ⟨qa0, qa1, qa2, qa3⟩ := bel4 S1.out.below al a0 a1 a2 a3
      clear hb
      go_wp2_with fail
      (with_reducible refine (DR.out _ S1.out.below).mono ?_)
      rintro e w2 ⟨rfl, hb⟩
      have S2 := Lib.hid (S1.out.next hb)
      obtain ⟨-, -, y0, y1, y2, y3⟩ := id S2.out
      obtain ⟨qa0, qa1, qa2, qa3⟩ := bel4 S2.out.below al a0 a1 a2 a3
      clear hb
      go_wp2_with fail
      (with_reducible refine (BX.out _ S2.out.below).mono ?_)
      rintro e w3 ⟨rfl, hb⟩
      have S3 := Lib.hid (S2.out.next hb)
      obtain ⟨-, -, y0, y1, y2, y3⟩ := id S3.out
      obtain ⟨qa0, qa1, qa2, qa3⟩ := bel4 S3.out.below al a0 a1 a2 a3
      clear hb
      go_wp2_with fail
      go_ret
      exact ⟨rfl, S3.out.below⟩
    ·rw [Bool.eq_false_iff.2 c3] at DR
     have C3 := Lib.hid c3
     clear c3
     obtain rfl : r = false := by rw [er]; exact decide_eq_false (fun h => C3.out h.2.2.2.1)
     clear er
     go_enter Tryz.func90, Tryz.ntmps90
     go_wp2_with fail
     (with_reducible refine (NM.out _ S0.out.below).mono ?_)
     rintro e w1 ⟨rfl, hb⟩
     have S1 := Lib.hid (S0.out.next hb)
     obtain ⟨-, -, y0, y1, y2, y3⟩ := id S1.out
     obtain ⟨qa0, qa1, qa2, qa3⟩ := bel4 S1.out.below al a0 a1 a2 a3
     clear hb
     go_wp2_with fail
     (with_reducible refine (DR.out _ S1.out.below).mono ?_)
     rintro e w2 ⟨rfl, hb⟩
     have S2 := Lib.hid (S1.out.next hb)
     obtain ⟨-, -, y0, y1, y2, y3⟩ := id S2.out
     obtain ⟨qa0, qa1, qa2, qa3⟩ := bel4 S2.out.below al a0 a1 a2 a3
     clear hb
     go_wp2_with fail
     go_ret
     exact ⟨rfl, S2.out.below⟩
   ·have gl : ((l.length : Int) == 3) = false := by rw [beq_eq_false_iff_ne]; omega
    have C2 := Lib.hid c2
    clear c2
    obtain rfl : r = false := by rw [er]; exact decide_eq_false (fun h => C2.out h.2.2.1)
    clear er
    go_enter Tryz.func90, Tryz.ntmps90
    go_wp2_with fail
    (with_reducible refine (NM.out _ S0.out.below).mono ?_)
    rintro e w1 ⟨rfl, hb⟩
    have S1 := Lib.hid (S0.out.next hb)
    obtain ⟨-, -, y0, y1, y2, y3⟩ := id S1.out
    clear hb
    go_wp2_with fail
    go_ret
    exact ⟨rfl, S1.out.below⟩
  ·have gn0 : ((n : Int) == 0) = false := by rw [beq_eq_false_iff_ne]; omega
   have C1 := Lib.hid c1
   clear c1
   obtain rfl : r = false := by rw [er]; exact decide_eq_false (fun h => C1.out h.2.1)
   clear er
   go_enter Tryz.func90, Tryz.ntmps90
   go_wp2_with fail
   (with_reducible refine (NM.out _ S0.out.below).mono ?_)
   rintro e w1 ⟨rfl, hb⟩
   have S1 := Lib.hid (S0.out.next hb)
   obtain ⟨-, -, y0, y1, y2, y3⟩ := id S1.out
   clear hb
   go_wp2_with fail
   go_ret
   exact ⟨rfl, S1.out.below⟩
 ·rw [Bool.eq_false_iff.2 c0] at NM
  have C0 := Lib.hid c0
  clear c0
  obtain rfl : r = false := by rw [er]; exact decide_eq_false (fun h => C0.out h.1)
  clear er
  go_enter Tryz.func90, Tryz.ntmps90
  go_wp2_with fail
  (with_reducible refine (NM.out _ S0.out.below).mono ?_)
  rintro e w1 ⟨rfl, hb⟩
  have S1 := Lib.hid (S0.out.next hb)
  obtain ⟨-, -, y0, y1, y2, y3⟩ := id S1.out
  clear hb
  go_wp2_with fail
  go_ret
  exact ⟨rfl, S1.out.below⟩
open Go.RowKit
theorem isItem_8 (t : M.Tree) (f : Nat) (hp : ∀ u, u ∈ t.kids -> FnC 91 (M.exprF f) u) (hq : ∀ u, u ∈ t.kids -> FnC 89 (M.blockB (M.itemF f)) u) (hkind : t.kind = 8) : FnC 90 (M.itemF (f + 1)) t := by
 intro v w hv
 have hv0 := hv
 have hud := hud9
 obtain ⟨T, kv, rfl, hT, hok, hk⟩ := hv
 obtain ⟨r, er⟩ : ∃ r, r = (M.itemF (f + 1)) t := ⟨_, rfl⟩
 rw [<- er]
 rw [M.itemF, if_neg (show ¬ t.kind = 2 by omega), if_neg (show ¬ t.kind = 3 by omega), if_neg (show ¬ t.kind = 4 by omega), if_neg (show ¬ t.kind = 5 by omega), if_neg (show ¬ t.kind = 6 by omega), if_neg (show ¬ t.kind = 7 by omega), if_pos hkind] at er
 obtain ⟨K, eK⟩ : ∃ K, K = t.kind := ⟨_, rfl⟩
 obtain ⟨tx, ex⟩ : ∃ x, x = t.text := ⟨_, rfl⟩
 obtain ⟨n, en⟩ : ∃ n, n = t.num := ⟨_, rfl⟩
 obtain ⟨l, el⟩ : ∃ l, l = t.kids := ⟨_, rfl⟩
 try rw [<- eK] at er
 try rw [<- ex] at er
 try rw [<- en] at er
 try rw [<- el] at er
 rw [<- eK, <- en] at hv0 ⊢
 rw [<- ex] at hT
 rw [<- el] at hk
 obtain ⟨A, cap, rfl, _⟩ := id hk
 have HE := Lib.hid (M.bs_empty hT)
 have HTX := Lib.hid hT
 have hn := hok.2.1
 have hsz := hok.2.2
 rw [<- en] at hn
 have S0 := Lib.hid (NB.start w K T n (.slice A l.length cap))
 have hK : K = 8 := eK.trans hkind
 have gk2 : (K == 2) = false := by rw [beq_eq_false_iff_ne]; omega
 have gk3 : (K == 3) = false := by rw [beq_eq_false_iff_ne]; omega
 have gk4 : (K == 4) = false := by rw [beq_eq_false_iff_ne]; omega
 have gk5 : (K == 5) = false := by rw [beq_eq_false_iff_ne]; omega
 have gk6 : (K == 6) = false := by rw [beq_eq_false_iff_ne]; omega
 have gk7 : (K == 7) = false := by rw [beq_eq_false_iff_ne]; omega
 have gk8 : (K == 8) = true := by rw [beq_iff_eq]; omega
 have NM := Lib.hid fun w' (_ : Below w.heap.size w w') => rname9_any T w' hsz
 rw [hT] at NM
 have HPP := Lib.hid fun i (hi : i < l.length) => hp (l.getD i M.Tree.no) (by rw [<- el]; exact kid_mem hi)
 have HQQ := Lib.hid fun i (hi : i < l.length) => hq (l.getD i M.Tree.no) (by rw [<- el]; exact kid_mem hi)
 have HPL := Lib.hid (show ∀ u, u ∈ l -> FnC 91 (M.exprF f) u from fun u hu => hp u (by rw [<- el]; exact hu))
 have HQL := Lib.hid (show ∀ u, u ∈ l -> FnC 89 (M.blockB (M.itemF f)) u from fun u hu => hq u (by rw [<- el]; exact hu))
 clear hK hp hq
 have HKK := Lib.hid hk
 clear hT hok hk eK ex en el hsz hv0
 by_cases c0 : M.nameOk tx = true
 ·rw [c0] at NM
  have C0 := Lib.hid c0
  clear c0
  by_cases c1 : tx = []
  ·have gt : T.toList.isEmpty = true := by rw [HE.out, decide_eq_true c1]
   have C1 := Lib.hid c1
   clear c1
   by_cases c2 : n = 0
   ·have gn0 : ((n : Int) == 0) = true := by rw [beq_iff_eq]; omega
    have C2 := Lib.hid c2
    clear c2
    by_cases c3 : 0 < l.length
    ·have gl : decide ((l.length : Int) > 0) = true := by rw [decide_eq_true_eq]; omega
     have glN : 0 < l.length := by omega
     obtain ⟨ba, oa, Ta, Aa, ma, cca, hAa, al, a0, a1, a2, a3, av⟩ := HKK.out.at 0 (by omega)
     cases hAa
     obtain ⟨ua, eua⟩ : ∃ u, u = l.getD 0 M.Tree.no := ⟨_, rfl⟩
     rw [<- eua] at a0 a2 av er
     obtain ⟨ka, eka⟩ : ∃ k, k = ua.kind := ⟨_, rfl⟩
     obtain ⟨na, ena⟩ : ∃ k, k = ua.num := ⟨_, rfl⟩
     rw [<- eka] at a0 av
     rw [<- ena] at a2 av
     simp only [show 0 * 4 = 0 from rfl, Nat.add_zero] at a0 a1 a2 a3
     have hia : 0 < l.length := by omega
     have Va := Lib.hid av
     have hpa := HPP.out 0 (by omega)
     rw [<- eua] at hpa
     have EX := Lib.hid fun w' (hb : Below w.heap.size w w') => hpa _ w' (Va.out.below hb)
     clear hpa
     clear av eua eka ena
     obtain ⟨qa0, qa1, qa2, qa3⟩ := bel4 S0.out.below al a0 a1 a2 a3
     have C3 := Lib.hid c3
     clear c3
     by_cases c4 : M.exprF f ua = true
     ·rw [c4] at EX
      have C4 := Lib.hid c4
      clear c4
      by_cases c5 : cap = 1
      ·have hcap : l.length <= cap := HKK.out.kid.2.1
       have hlen1 : l.length = 1 := by omega
       have hd1 : (l.drop 1).all M.toB = true := by rw [List.drop_eq_nil_of_le (by omega)]; rfl
       have DR := Lib.hid fun w' (hb : Below w.heap.size w w') => (show Calls Tryz.prog 31 #[.slice (some ⟨ba, oa, none⟩) (l.length - 1) 0, .int .i64 2] w' fun e w2 => e = .returned (.bool ((l.drop 1).all M.toB)) /\ Below w'.heap.size w' w2 by rw [hd1, show l.length - 1 = 0 by omega]; exact rall9_any (c := 2) (p := M.toB) [] (fun k hk => absurd hk (by simp)) (.slice (some ⟨ba, oa, none⟩) 0 0) w' ⟨_, 0, rfl, by simp, by simp, fun h => absurd h (by simp)⟩)
       clear hd1 hlen1
       have C5 := Lib.hid c5
       clear c5
       by_cases c6 : (l.drop 1).all M.toB = true
       ·rw [c6] at DR
        have C6 := Lib.hid c6
        clear c6
        obtain rfl : r = true := by rw [er]; exact decide_eq_true ⟨C1.out, C2.out, C3.out, C4.out, C6.out⟩
        clear er
        go_enter Tryz.func90, Tryz.ntmps90
        go_wp2_with fail
        (with_reducible refine (NM.out _ S0.out.below).mono ?_)
        rintro e w1 ⟨rfl, hb⟩
        have S1 := Lib.hid (S0.out.next hb)
        obtain ⟨-, -, y0, y1, y2, y3⟩ := id S1.out
        obtain ⟨qa0, qa1, qa2, qa3⟩ := bel4 S1.out.below al a0 a1 a2 a3
        clear hb
        go_wp2_with fail
        (with_reducible refine (EX.out _ S1.out.below).mono ?_)
        rintro e w2 ⟨rfl, hb⟩
        have S2 := Lib.hid (S1.out.next hb)
        obtain ⟨-, -, y0, y1, y2, y3⟩ := id S2.out
        obtain ⟨qa0, qa1, qa2, qa3⟩ := bel4 S2.out.below al a0 a1 a2 a3
        clear hb
        go_wp2_with fail
        (with_reducible refine (DR.out _ S2.out.below).mono ?_)
        rintro e w3 ⟨rfl, hb⟩
        have S3 := Lib.hid (S2.out.next hb)
        obtain ⟨-, -, y0, y1, y2, y3⟩ := id S3.out
        obtain ⟨qa0, qa1, qa2, qa3⟩ := bel4 S3.out.below al a0 a1 a2 a3
        clear hb
        go_wp2_with fail
        go_ret
        exact ⟨rfl, S3.out.below⟩
       ·rw [Bool.eq_false_iff.2 c6] at DR
        have C6 := Lib.hid c6
        clear c6
        obtain rfl : r = false := by rw [er]; exact decide_eq_false (fun h => C6.out h.2.2.2.2)
        clear er
        go_enter Tryz.func90, Tryz.ntmps90
        go_wp2_with fail
        (with_reducible refine (NM.out _ S0.out.below).mono ?_)
        rintro e w1 ⟨rfl, hb⟩
        have S1 := Lib.hid (S0.out.next hb)
        obtain ⟨-, -, y0, y1, y2, y3⟩ := id S1.out
        obtain ⟨qa0, qa1, qa2, qa3⟩ := bel4 S1.out.below al a0 a1 a2 a3
        clear hb
        go_wp2_with fail
        (with_reducible refine (EX.out _ S1.out.below).mono ?_)
        rintro e w2 ⟨rfl, hb⟩
        have S2 := Lib.hid (S1.out.next hb)
        obtain ⟨-, -, y0, y1, y2, y3⟩ := id S2.out
        obtain ⟨qa0, qa1, qa2, qa3⟩ := bel4 S2.out.below al a0 a1 a2 a3
        clear hb
        go_wp2_with fail
        (with_reducible refine (DR.out _ S2.out.below).mono ?_)
        rintro e w3 ⟨rfl, hb⟩
        have S3 := Lib.hid (S2.out.next hb)
        obtain ⟨-, -, y0, y1, y2, y3⟩ := id S3.out
        obtain ⟨qa0, qa1, qa2, qa3⟩ := bel4 S3.out.below al a0 a1 a2 a3
        clear hb
        go_wp2_with fail
        go_ret
        exact ⟨rfl, S3.out.below⟩
      ·have hcap : l.length <= cap := HKK.out.kid.2.1
       have hcpos : 0 < cap - 1 := by omega
       have DR := Lib.hid fun w' (hb : Below w.heap.size w w') => rall9_any (c := 2) (p := M.toB) ((l.drop 1).take (l.length - 1)) (fun k hk => is_2 fun v w h => risTo_any _ v w h) (.slice (some ⟨ba, oa + 1 * 4, none⟩) (l.length - 1) (cap - 1)) w' ((HKK.out.cut 1 l.length (by omega) (by omega)).below hb)
       rw [List.take_of_length_le (by simp), Nat.one_mul] at DR
       have C5 := Lib.hid c5
       clear c5
       by_cases c6 : (l.drop 1).all M.toB = true
       ·rw [c6] at DR
        have C6 := Lib.hid c6
        clear c6
        obtain rfl : r = true := by rw [er]; exact decide_eq_true ⟨C1.out, C2.out, C3.out, C4.out, C6.out⟩
        clear er
        go_enter Tryz.func90, Tryz.ntmps90
        go_wp2_with fail
        (with_reducible refine (NM.out _ S0.out.below).mono ?_)
        rintro e w1 ⟨rfl, hb⟩
        have S1 := Lib.hid (S0.out.next hb)
        obtain ⟨-, -, y0, y1, y2, y3⟩ := id S1.out
        obtain ⟨qa0, qa1, qa2, qa3⟩ := bel4 S1.out.below al a0 a1 a2 a3
        clear hb
        go_wp2_with fail
        (with_reducible refine (EX.out _ S1.out.below).mono ?_)
        rintro e w2 ⟨rfl, hb⟩
        have S2 := Lib.hid (S1.out.next hb)
        obtain ⟨-, -, y0, y1, y2, y3⟩ := id S2.out
        obtain ⟨qa0, qa1, qa2, qa3⟩ := bel4 S2.out.below al a0 a1 a2 a3
        clear hb
        go_wp2_with fail
        (with_reducible refine (DR.out _ S2.out.below).mono ?_)
        rintro e w3 ⟨rfl, hb⟩
        have S3 := Lib.hid (S2.out.next hb)
        obtain ⟨-, -, y0, y1, y2, y3⟩ := id S3.out
        obtain ⟨qa0, qa1, qa2, qa3⟩ := bel4 S3.out.below al a0 a1 a2 a3
        clear hb
        go_wp2_with fail
        go_ret
        exact ⟨rfl, S3.out.below⟩
       ·rw [Bool.eq_false_iff.2 c6] at DR
        have C6 := Lib.hid c6
        clear c6
        obtain rfl : r = false := by rw [er]; exact decide_eq_false (fun h => C6.out h.2.2.2.2)
        clear er
        go_enter Tryz.func90, Tryz.ntmps90
        go_wp2_with fail
        (with_reducible refine (NM.out _ S0.out.below).mono ?_)
        rintro e w1 ⟨rfl, hb⟩
        have S1 := Lib.hid (S0.out.next hb)
        obtain ⟨-, -, y0, y1, y2, y3⟩ := id S1.out
        obtain ⟨qa0, qa1, qa2, qa3⟩ := bel4 S1.out.below al a0 a1 a2 a3
        clear hb
        go_wp2_with fail
        (with_reducible refine (EX.out _ S1.out.below).mono ?_)
        rintro e w2 ⟨rfl, hb⟩
        have S2 := Lib.hid (S1.out.next hb)
        obtain ⟨-, -, y0, y1, y2, y3⟩ := id S2.out
        obtain ⟨qa0, qa1, qa2, qa3⟩ := bel4 S2.out.below al a0 a1 a2 a3
        clear hb
        go_wp2_with fail
        (with_reducible refine (DR.out _ S2.out.below).mono ?_)
        rintro e w3 ⟨rfl, hb⟩
        have S3 := Lib.hid (S2.out.next hb)
        obtain ⟨-, -, y0, y1, y2, y3⟩ := id S3.out
        obtain ⟨qa0, qa1, qa2, qa3⟩ := bel4 S3.out.below al a0 a1 a2 a3
        clear hb
        go_wp2_with fail
        go_ret
        exact ⟨rfl, S3.out.below⟩
     ·rw [Bool.eq_false_iff.2 c4] at EX
      have C4 := Lib.hid c4
      clear c4
      obtain rfl : r = false := by rw [er]; exact decide_eq_false (fun h => C4.out h.2.2.2.1)
      clear er
      go_enter Tryz.func90, Tryz.ntmps90
      go_wp2_with fail
      (with_reducible refine (NM.out _ S0.out.below).mono ?_)
      rintro e w1 ⟨rfl, hb⟩
      have S1 := Lib.hid (S0.out.next hb)
      obtain ⟨-, -, y0, y1, y2, y3⟩ := id S1.out
      obtain ⟨qa0, qa1, qa2, qa3⟩ := bel4 S1.out.below al a0 a1 a2 a3
      clear hb
      go_wp2_with fail
      (with_reducible refine (EX.out _ S1.out.below).mono ?_)
      rintro e w2 ⟨rfl, hb⟩
      have S2 := Lib.hid (S1.out.next hb)
      obtain ⟨-, -, y0, y1, y2, y3⟩ := id S2.out
      obtain ⟨qa0, qa1, qa2, qa3⟩ := bel4 S2.out.below al a0 a1 a2 a3
      clear hb
      go_wp2_with fail
      go_ret
      exact ⟨rfl, S2.out.below⟩
    ·have gl : decide ((l.length : Int) > 0) = false := by rw [decide_eq_false_iff_not]; omega
     have glN : ¬ 0 < l.length := by omega
     have C3 := Lib.hid c3
     clear c3
     obtain rfl : r = false := by rw [er]; exact decide_eq_false (fun h => C3.out h.2.2.1)
     clear er
     go_enter Tryz.func90, Tryz.ntmps90
     go_wp2_with fail
     (with_reducible refine (NM.out _ S0.out.below).mono ?_)
     rintro e w1 ⟨rfl, hb⟩
     have S1 := Lib.hid (S0.out.next hb)
     obtain ⟨-, -, y0, y1, y2, y3⟩ := id S1.out
     clear hb
     go_wp2_with fail
     go_ret
     exact ⟨rfl, S1.out.below⟩
   ·have gn0 : ((n : Int) == 0) = false := by rw [beq_eq_false_iff_ne]; omega
    have C2 := Lib.hid c2
    clear c2
    obtain rfl : r = false := by rw [er]; exact decide_eq_false (fun h => C2.out h.2.1)
    clear er
    go_enter Tryz.func90, Tryz.ntmps90
    go_wp2_with fail
    (with_reducible refine (NM.out _ S0.out.below).mono ?_)
    rintro e w1 ⟨rfl, hb⟩
    have S1 := Lib.hid (S0.out.next hb)
    obtain ⟨-, -, y0, y1, y2, y3⟩ := id S1.out
    clear hb
    go_wp2_with fail
    go_ret
    exact ⟨rfl, S1.out.below⟩
  ·have gt : T.toList.isEmpty = false := by rw [HE.out, decide_eq_false c1]
   have C1 := Lib.hid c1
   clear c1
   obtain rfl : r = false := by rw [er]; exact decide_eq_false (fun h => C1.out h.1)
   clear er
   go_enter Tryz.func90, Tryz.ntmps90
   go_wp2_with fail
   (with_reducible refine (NM.out _ S0.out.below).mono ?_)
   rintro e w1 ⟨rfl, hb⟩
   have S1 := Lib.hid (S0.out.next hb)
   obtain ⟨-, -, y0, y1, y2, y3⟩ := id S1.out
   clear hb
   go_wp2_with fail
   go_ret
   exact ⟨rfl, S1.out.below⟩
 ·rw [Bool.eq_false_iff.2 c0] at NM
  have C0 := Lib.hid c0
  clear c0
  by_cases c1 : tx = []
  ·have gt : T.toList.isEmpty = true := by rw [HE.out, decide_eq_true c1]
   have C1 := Lib.hid c1
   clear c1
   by_cases c2 : n = 0
   ·have gn0 : ((n : Int) == 0) = true := by rw [beq_iff_eq]; omega
    have C2 := Lib.hid c2
    clear c2
    by_cases c3 : 0 < l.length
    ·have gl : decide ((l.length : Int) > 0) = true := by rw [decide_eq_true_eq]; omega
     have glN : 0 < l.length := by omega
     obtain ⟨ba, oa, Ta, Aa, ma, cca, hAa, al, a0, a1, a2, a3, av⟩ := HKK.out.at 0 (by omega)
     cases hAa
     obtain ⟨ua, eua⟩ : ∃ u, u = l.getD 0 M.Tree.no := ⟨_, rfl⟩
     rw [<- eua] at a0 a2 av er
     obtain ⟨ka, eka⟩ : ∃ k, k = ua.kind := ⟨_, rfl⟩
     obtain ⟨na, ena⟩ : ∃ k, k = ua.num := ⟨_, rfl⟩
     rw [<- eka] at a0 av
     rw [<- ena] at a2 av
     simp only [show 0 * 4 = 0 from rfl, Nat.add_zero] at a0 a1 a2 a3
     have hia : 0 < l.length := by omega
     have Va := Lib.hid av
     have hpa := HPP.out 0 (by omega)
     rw [<- eua] at hpa
     have EX := Lib.hid fun w' (hb : Below w.heap.size w w') => hpa _ w' (Va.out.below hb)
     clear hpa
     clear av eua eka ena
     obtain ⟨qa0, qa1, qa2, qa3⟩ := bel4 S0.out.below al a0 a1 a2 a3
     have C3 := Lib.hid c3
     clear c3
     by_cases c4 : M.exprF f ua = true
     ·rw [c4] at EX
      have C4 := Lib.hid c4
      clear c4
      by_cases c5 : cap = 1
      ·have hcap : l.length <= cap := HKK.out.kid.2.1
       have hlen1 : l.length = 1 := by omega
       have hd1 : (l.drop 1).all M.toB = true := by rw [List.drop_eq_nil_of_le (by omega)]; rfl
       have DR := Lib.hid fun w' (hb : Below w.heap.size w w') => (show Calls Tryz.prog 31 #[.slice (some ⟨ba, oa, none⟩) (l.length - 1) 0, .int .i64 2] w' fun e w2 => e = .returned (.bool ((l.drop 1).all M.toB)) /\ Below w'.heap.size w' w2 by rw [hd1, show l.length - 1 = 0 by omega]; exact rall9_any (c := 2) (p := M.toB) [] (fun k hk => absurd hk (by simp)) (.slice (some ⟨ba, oa, none⟩) 0 0) w' ⟨_, 0, rfl, by simp, by simp, fun h => absurd h (by simp)⟩)
       clear hd1 hlen1
       have C5 := Lib.hid c5
       clear c5
       by_cases c6 : (l.drop 1).all M.toB = true
       ·rw [c6] at DR
        have C6 := Lib.hid c6
        clear c6
        obtain rfl : r = true := by rw [er]; exact decide_eq_true ⟨C1.out, C2.out, C3.out, C4.out, C6.out⟩
        clear er
        go_enter Tryz.func90, Tryz.ntmps90
        go_wp2_with fail
        (with_reducible refine (NM.out _ S0.out.below).mono ?_)
        rintro e w1 ⟨rfl, hb⟩
        have S1 := Lib.hid (S0.out.next hb)
        obtain ⟨-, -, y0, y1, y2, y3⟩ := id S1.out
        obtain ⟨qa0, qa1, qa2, qa3⟩ := bel4 S1.out.below al a0 a1 a2 a3
        clear hb
        go_wp2_with fail
        (with_reducible refine (EX.out _ S1.out.below).mono ?_)
        rintro e w2 ⟨rfl, hb⟩
        have S2 := Lib.hid (S1.out.next hb)
        obtain ⟨-, -, y0, y1, y2, y3⟩ := id S2.out
        obtain ⟨qa0, qa1, qa2, qa3⟩ := bel4 S2.out.below al a0 a1 a2 a3
        clear hb
        go_wp2_with fail
        (with_reducible refine (DR.out _ S2.out.below).mono ?_)
        rintro e w3 ⟨rfl, hb⟩
        have S3 := Lib.hid (S2.out.next hb)
        obtain ⟨-, -, y0, y1, y2, y3⟩ := id S3.out
        obtain ⟨qa0, qa1, qa2, qa3⟩ := bel4 S3.out.below al a0 a1 a2 a3
        clear hb
        go_wp2_with fail
        go_ret
        exact ⟨rfl, S3.out.below⟩
       ·rw [Bool.eq_false_iff.2 c6] at DR
        have C6 := Lib.hid c6
        clear c6
        obtain rfl : r = false := by rw [er]; exact decide_eq_false (fun h => C6.out h.2.2.2.2)
        clear er
        go_enter Tryz.func90, Tryz.ntmps90
        go_wp2_with fail
        (with_reducible refine (NM.out _ S0.out.below).mono ?_)
        rintro e w1 ⟨rfl, hb⟩
        have S1 := Lib.hid (S0.out.next hb)
        obtain ⟨-, -, y0, y1, y2, y3⟩ := id S1.out
        obtain ⟨qa0, qa1, qa2, qa3⟩ := bel4 S1.out.below al a0 a1 a2 a3
        clear hb
        go_wp2_with fail
        (with_reducible refine (EX.out _ S1.out.below).mono ?_)
        rintro e w2 ⟨rfl, hb⟩
        have S2 := Lib.hid (S1.out.next hb)
        obtain ⟨-, -, y0, y1, y2, y3⟩ := id S2.out
        obtain ⟨qa0, qa1, qa2, qa3⟩ := bel4 S2.out.below al a0 a1 a2 a3
        clear hb
        go_wp2_with fail
        (with_reducible refine (DR.out _ S2.out.below).mono ?_)
        rintro e w3 ⟨rfl, hb⟩
        have S3 := Lib.hid (S2.out.next hb)
        obtain ⟨-, -, y0, y1, y2, y3⟩ := id S3.out
        obtain ⟨qa0, qa1, qa2, qa3⟩ := bel4 S3.out.below al a0 a1 a2 a3
        clear hb
        go_wp2_with fail
        go_ret
        exact ⟨rfl, S3.out.below⟩
      ·have hcap : l.length <= cap := HKK.out.kid.2.1
       have hcpos : 0 < cap - 1 := by omega
       have DR := Lib.hid fun w' (hb : Below w.heap.size w w') => rall9_any (c := 2) (p := M.toB) ((l.drop 1).take (l.length - 1)) (fun k hk => is_2 fun v w h => risTo_any _ v w h) (.slice (some ⟨ba, oa + 1 * 4, none⟩) (l.length - 1) (cap - 1)) w' ((HKK.out.cut 1 l.length (by omega) (by omega)).below hb)
       rw [List.take_of_length_le (by simp), Nat.one_mul] at DR
       have C5 := Lib.hid c5
       clear c5
       by_cases c6 : (l.drop 1).all M.toB = true
       ·rw [c6] at DR
        have C6 := Lib.hid c6
        clear c6
        obtain rfl : r = true := by rw [er]; exact decide_eq_true ⟨C1.out, C2.out, C3.out, C4.out, C6.out⟩
        clear er
        go_enter Tryz.func90, Tryz.ntmps90
        go_wp2_with fail
        (with_reducible refine (NM.out _ S0.out.below).mono ?_)
        rintro e w1 ⟨rfl, hb⟩
        have S1 := Lib.hid (S0.out.next hb)
        obtain ⟨-, -, y0, y1, y2, y3⟩ := id S1.out
        obtain ⟨qa0, qa1, qa2, qa3⟩ := bel4 S1.out.below al a0 a1 a2 a3
        clear hb
        go_wp2_with fail
        (with_reducible refine (EX.out _ S1.out.below).mono ?_)
        rintro e w2 ⟨rfl, hb⟩
        have S2 := Lib.hid (S1.out.next hb)
        obtain ⟨-, -, y0, y1, y2, y3⟩ := id S2.out
        obtain ⟨qa0, qa1, qa2, qa3⟩ := bel4 S2.out.below al a0 a1 a2 a3
        clear hb
        go_wp2_with fail
        (with_reducible refine (DR.out _ S2.out.below).mono ?_)
        rintro e w3 ⟨rfl, hb⟩
        have S3 := Lib.hid (S2.out.next hb)
        obtain ⟨-, -, y0, y1, y2, y3⟩ := id S3.out
        obtain ⟨qa0, qa1, qa2, qa3⟩ := bel4 S3.out.below al a0 a1 a2 a3
        clear hb
        go_wp2_with fail
        go_ret
        exact ⟨rfl, S3.out.below⟩
       ·rw [Bool.eq_false_iff.2 c6] at DR
        have C6 := Lib.hid c6
        clear c6
        obtain rfl : r = false := by rw [er]; exact decide_eq_false (fun h => C6.out h.2.2.2.2)
        clear er
        go_enter Tryz.func90, Tryz.ntmps90
        go_wp2_with fail
        (with_reducible refine (NM.out _ S0.out.below).mono ?_)
        rintro e w1 ⟨rfl, hb⟩
        have S1 := Lib.hid (S0.out.next hb)
        obtain ⟨-, -, y0, y1, y2, y3⟩ := id S1.out
        obtain ⟨qa0, qa1, qa2, qa3⟩ := bel4 S1.out.below al a0 a1 a2 a3
        clear hb
        go_wp2_with fail
        (with_reducible refine (EX.out _ S1.out.below).mono ?_)
        rintro e w2 ⟨rfl, hb⟩
        have S2 := Lib.hid (S1.out.next hb)
        obtain ⟨-, -, y0, y1, y2, y3⟩ := id S2.out
        obtain ⟨qa0, qa1, qa2, qa3⟩ := bel4 S2.out.below al a0 a1 a2 a3
        clear hb
        go_wp2_with fail
        (with_reducible refine (DR.out _ S2.out.below).mono ?_)
        rintro e w3 ⟨rfl, hb⟩
        have S3 := Lib.hid (S2.out.next hb)
        obtain ⟨-, -, y0, y1, y2, y3⟩ := id S3.out
        obtain ⟨qa0, qa1, qa2, qa3⟩ := bel4 S3.out.below al a0 a1 a2 a3
        clear hb
        go_wp2_with fail
        go_ret
        exact ⟨rfl, S3.out.below⟩
     ·rw [Bool.eq_false_iff.2 c4] at EX
      have C4 := Lib.hid c4
      clear c4
      obtain rfl : r = false := by rw [er]; exact decide_eq_false (fun h => C4.out h.2.2.2.1)
      clear er
      go_enter Tryz.func90, Tryz.ntmps90
      go_wp2_with fail
      (with_reducible refine (NM.out _ S0.out.below).mono ?_)
      rintro e w1 ⟨rfl, hb⟩
      have S1 := Lib.hid (S0.out.next hb)
      obtain ⟨-, -, y0, y1, y2, y3⟩ := id S1.out
      obtain ⟨qa0, qa1, qa2, qa3⟩ := bel4 S1.out.below al a0 a1 a2 a3
      clear hb
      go_wp2_with fail
      (with_reducible refine (EX.out _ S1.out.below).mono ?_)
      rintro e w2 ⟨rfl, hb⟩
      have S2 := Lib.hid (S1.out.next hb)
      obtain ⟨-, -, y0, y1, y2, y3⟩ := id S2.out
      obtain ⟨qa0, qa1, qa2, qa3⟩ := bel4 S2.out.below al a0 a1 a2 a3
      clear hb
      go_wp2_with fail
      go_ret
      exact ⟨rfl, S2.out.below⟩
    ·have gl : decide ((l.length : Int) > 0) = false := by rw [decide_eq_false_iff_not]; omega
     have glN : ¬ 0 < l.length := by omega
     have C3 := Lib.hid c3
     clear c3
     obtain rfl : r = false := by rw [er]; exact decide_eq_false (fun h => C3.out h.2.2.1)
     clear er
     go_enter Tryz.func90, Tryz.ntmps90
     go_wp2_with fail
     (with_reducible refine (NM.out _ S0.out.below).mono ?_)
     rintro e w1 ⟨rfl, hb⟩
     have S1 := Lib.hid (S0.out.next hb)
     obtain ⟨-, -, y0, y1, y2, y3⟩ := id S1.out
     clear hb
     go_wp2_with fail
     go_ret
     exact ⟨rfl, S1.out.below⟩
   ·have gn0 : ((n : Int) == 0) = false := by rw [beq_eq_false_iff_ne]; omega
    have C2 := Lib.hid c2
    clear c2
    obtain rfl : r = false := by rw [er]; exact decide_eq_false (fun h => C2.out h.2.1)
    clear er
    go_enter Tryz.func90, Tryz.ntmps90
    go_wp2_with fail
    (with_reducible refine (NM.out _ S0.out.below).mono ?_)
    rintro e w1 ⟨rfl, hb⟩
    have S1 := Lib.hid (S0.out.next hb)
    obtain ⟨-, -, y0, y1, y2, y3⟩ := id S1.out
    clear hb
    go_wp2_with fail
    go_ret
    exact ⟨rfl, S1.out.below⟩
  ·have gt : T.toList.isEmpty = false := by rw [HE.out, decide_eq_false c1]
   have C1 := Lib.hid c1
   clear c1
   obtain rfl : r = false := by rw [er]; exact decide_eq_false (fun h => C1.out h.1)
   clear er
   go_enter Tryz.func90, Tryz.ntmps90
   go_wp2_with fail
   (with_reducible refine (NM.out _ S0.out.below).mono ?_)
   rintro e w1 ⟨rfl, hb⟩
   have S1 := Lib.hid (S0.out.next hb)
   obtain ⟨-, -, y0, y1, y2, y3⟩ := id S1.out
   clear hb
   go_wp2_with fail
   go_ret
   exact ⟨rfl, S1.out.below⟩
open Go.RowKit
theorem isItem_9 (t : M.Tree) (f : Nat) (hp : ∀ u, u ∈ t.kids -> FnC 91 (M.exprF f) u) (hq : ∀ u, u ∈ t.kids -> FnC 89 (M.blockB (M.itemF f)) u) (hkind : t.kind = 9) : FnC 90 (M.itemF (f + 1)) t := by
 intro v w hv
 have hv0 := hv
 have hud := hud9
 obtain ⟨T, kv, rfl, hT, hok, hk⟩ := hv
 obtain ⟨r, er⟩ : ∃ r, r = (M.itemF (f + 1)) t := ⟨_, rfl⟩
 rw [<- er]
 rw [M.itemF, if_neg (show ¬ t.kind = 2 by omega), if_neg (show ¬ t.kind = 3 by omega), if_neg (show ¬ t.kind = 4 by omega), if_neg (show ¬ t.kind = 5 by omega), if_neg (show ¬ t.kind = 6 by omega), if_neg (show ¬ t.kind = 7 by omega), if_neg (show ¬ t.kind = 8 by omega), if_pos hkind] at er
 obtain ⟨K, eK⟩ : ∃ K, K = t.kind := ⟨_, rfl⟩
 obtain ⟨tx, ex⟩ : ∃ x, x = t.text := ⟨_, rfl⟩
 obtain ⟨n, en⟩ : ∃ n, n = t.num := ⟨_, rfl⟩
 obtain ⟨l, el⟩ : ∃ l, l = t.kids := ⟨_, rfl⟩
 try rw [<- eK] at er
 try rw [<- ex] at er
 try rw [<- en] at er
 try rw [<- el] at er
 rw [<- eK, <- en] at hv0 ⊢
 rw [<- ex] at hT
 rw [<- el] at hk
 obtain ⟨A, cap, rfl, _⟩ := id hk
 have HE := Lib.hid (M.bs_empty hT)
 have HTX := Lib.hid hT
 have hn := hok.2.1
 have hsz := hok.2.2
 rw [<- en] at hn
 have S0 := Lib.hid (NB.start w K T n (.slice A l.length cap))
 have hK : K = 9 := eK.trans hkind
 have gk2 : (K == 2) = false := by rw [beq_eq_false_iff_ne]; omega
 have gk3 : (K == 3) = false := by rw [beq_eq_false_iff_ne]; omega
 have gk4 : (K == 4) = false := by rw [beq_eq_false_iff_ne]; omega
 have gk5 : (K == 5) = false := by rw [beq_eq_false_iff_ne]; omega
 have gk6 : (K == 6) = false := by rw [beq_eq_false_iff_ne]; omega
 have gk7 : (K == 7) = false := by rw [beq_eq_false_iff_ne]; omega
 have gk8 : (K == 8) = false := by rw [beq_eq_false_iff_ne]; omega
 have gk9 : (K == 9) = true := by rw [beq_iff_eq]; omega
 have NM := Lib.hid fun w' (_ : Below w.heap.size w w') => rname9_any T w' hsz
 rw [hT] at NM
 have HPP := Lib.hid fun i (hi : i < l.length) => hp (l.getD i M.Tree.no) (by rw [<- el]; exact kid_mem hi)
 have HQQ := Lib.hid fun i (hi : i < l.length) => hq (l.getD i M.Tree.no) (by rw [<- el]; exact kid_mem hi)
 have HPL := Lib.hid (show ∀ u, u ∈ l -> FnC 91 (M.exprF f) u from fun u hu => hp u (by rw [<- el]; exact hu))
 have HQL := Lib.hid (show ∀ u, u ∈ l -> FnC 89 (M.blockB (M.itemF f)) u from fun u hu => hq u (by rw [<- el]; exact hu))
 clear hK hp hq
 have HKK := Lib.hid hk
 clear hT hok hk eK ex en el hsz hv0
 by_cases c0 : M.nameOk tx = true
 ·rw [c0] at NM
  have C0 := Lib.hid c0
  clear c0
  by_cases c1 : n = 0
  ·have gn0 : ((n : Int) == 0) = true := by rw [beq_iff_eq]; omega
   have C1 := Lib.hid c1
   clear c1
   by_cases c2 : 1 < l.length
   ·have gl : decide ((l.length : Int) > 1) = true := by rw [decide_eq_true_eq]; omega
    have glN : 1 < l.length := by omega
    obtain ⟨j, hj⟩ : ∃ j, l.length = j + 2 := ⟨l.length - 2, by omega⟩
    rw [show l.length - 2 = j by omega, show l.length - 1 = j + 1 by omega] at er
    obtain ⟨ba, oa, Ta, Aa, ma, cca, hAa, al, a0, a1, a2, a3, av⟩ := HKK.out.at (j) (by omega)
    cases hAa
    have hpa := HQQ.out (j) (by omega)
    obtain ⟨ua, eua⟩ : ∃ u, u = l.getD (j) M.Tree.no := ⟨_, rfl⟩
    rw [<- eua] at a0 a2 av er hpa
    obtain ⟨ka, eka⟩ : ∃ k, k = ua.kind := ⟨_, rfl⟩
    obtain ⟨na, ena⟩ : ∃ k, k = ua.num := ⟨_, rfl⟩
    rw [<- eka] at a0 av
    rw [<- ena] at a2 av
    have hia : j < l.length := by omega
    have Va := Lib.hid av
    have BX := Lib.hid fun w' (hb : Below w.heap.size w w') => hpa _ w' (Va.out.below hb)
    clear hpa
    clear av eua eka ena
    obtain ⟨qa0, qa1, qa2, qa3⟩ := bel4 S0.out.below al a0 a1 a2 a3
    obtain ⟨bb, ob, Tb, Ab, mb, ccb, hAb, bl, b0, b1, b2, b3, bv⟩ := HKK.out.at (j + 1) (by omega)
    cases hAb
    have hpb := HPP.out (j + 1) (by omega)
    obtain ⟨ub, eub⟩ : ∃ u, u = l.getD (j + 1) M.Tree.no := ⟨_, rfl⟩
    rw [<- eub] at b0 b2 bv er hpb
    obtain ⟨kb, ekb⟩ : ∃ k, k = ub.kind := ⟨_, rfl⟩
    obtain ⟨nb, enb⟩ : ∃ k, k = ub.num := ⟨_, rfl⟩
    rw [<- ekb] at b0 bv
    rw [<- enb] at b2 bv
    have hib : j + 1 < l.length := by omega
    have Vb := Lib.hid bv
    have EX := Lib.hid fun w' (hb : Below w.heap.size w w') => hpb _ w' (Vb.out.below hb)
    clear hpb
    clear bv eub ekb enb
    obtain ⟨qb0, qb1, qb2, qb3⟩ := bel4 S0.out.below bl b0 b1 b2 b3
    have hcap : l.length <= cap := HKK.out.kid.2.1
    have DR := Lib.hid fun w' (hb : Below w.heap.size w w') => rall9_any (c := 1) (p := M.argB) ((l.drop 0).take (j - 0)) (fun k hk => is_1 (fun v w h => risArg_any _ v w h)) (.slice (some ⟨ba, oa + 0 * 4, none⟩) (j - 0) (cap - 0)) w' ((HKK.out.cut 0 j (by omega) (by omega)).below hb)
    rw [List.drop_zero, Nat.zero_mul, Nat.add_zero, Nat.sub_zero, Nat.sub_zero] at DR
    have hz2 : (l.length : Int) - 2 = (j : Nat) := by omega
    have hz1 : (l.length : Int) - 1 = (j + 1 : Nat) := by omega
    have hjl : j <= l.length := by omega
    clear hj
    have C2 := Lib.hid c2
    clear c2
    by_cases c3 : (l.take j).all M.argB = true
    ·rw [c3] at DR
     have C3 := Lib.hid c3
     clear c3
     by_cases c4 : M.blockB (M.itemF f) ua = true
     ·rw [c4] at BX
      have C4 := Lib.hid c4
      clear c4
      by_cases c5 : M.exprF f ub = true
      ·rw [c5] at EX
       have C5 := Lib.hid c5
       clear c5
       obtain rfl : r = true := by rw [er]; exact decide_eq_true ⟨C0.out, C1.out, C2.out, C3.out, C4.out, C5.out⟩
       clear er
       go_enter Tryz.func90, Tryz.ntmps90
       go_wp2_with fail
       (with_reducible refine (NM.out _ S0.out.below).mono ?_)
       rintro e w1 ⟨rfl, hb⟩
       have S1 := Lib.hid (S0.out.next hb)
       obtain ⟨-, -, y0, y1, y2, y3⟩ := id S1.out
       obtain ⟨qa0, qa1, qa2, qa3⟩ := bel4 S1.out.below al a0 a1 a2 a3
       obtain ⟨qb0, qb1, qb2, qb3⟩ := bel4 S1.out.below bl b0 b1 b2 b3
       clear hb
       go_wp2_with fail
       (with_reducible refine (DR.out _ S1.out.below).mono ?_)
       rintro e w2 ⟨rfl, hb⟩
       have S2 := Lib.hid (S1.out.next hb)
       obtain ⟨-, -, y0, y1, y2, y3⟩ := id S2.out
       obtain ⟨qa0, qa1, qa2, qa3⟩ := bel4 S2.out.below al a0 a1 a2 a3
       obtain ⟨qb0, qb1, qb2, qb3⟩ := bel4 S2.out.below bl b0 b1 b2 b3
       clear hb
       go_wp2_with fail
       (with_reducible refine (BX.out _ S2.out.below).mono ?_)
       rintro e w3 ⟨rfl, hb⟩
       have S3 := Lib.hid (S2.out.next hb)
       obtain ⟨-, -, y0, y1, y2, y3⟩ := id S3.out
       obtain ⟨qa0, qa1, qa2, qa3⟩ := bel4 S3.out.below al a0 a1 a2 a3
       obtain ⟨qb0, qb1, qb2, qb3⟩ := bel4 S3.out.below bl b0 b1 b2 b3
       clear hb
       go_wp2_with fail
       (with_reducible refine (EX.out _ S3.out.below).mono ?_)
       rintro e w4 ⟨rfl, hb⟩
       have S4 := Lib.hid (S3.out.next hb)
       obtain ⟨-, -, y0, y1, y2, y3⟩ := id S4.out
       obtain ⟨qa0, qa1, qa2, qa3⟩ := bel4 S4.out.below al a0 a1 a2 a3
       obtain ⟨qb0, qb1, qb2, qb3⟩ := bel4 S4.out.below bl b0 b1 b2 b3
       clear hb
       go_wp2_with fail
       go_ret
       exact ⟨rfl, S4.out.below⟩
      ·rw [Bool.eq_false_iff.2 c5] at EX
       have C5 := Lib.hid c5
       clear c5
       obtain rfl : r = false := by rw [er]; exact decide_eq_false (fun h => C5.out h.2.2.2.2.2)
       clear er
       go_enter Tryz.func90, Tryz.ntmps90
       go_wp2_with fail
       (with_reducible refine (NM.out _ S0.out.below).mono ?_)
       rintro e w1 ⟨rfl, hb⟩
       have S1 := Lib.hid (S0.out.next hb)
       obtain ⟨-, -, y0, y1, y2, y3⟩ := id S1.out
       obtain ⟨qa0, qa1, qa2, qa3⟩ := bel4 S1.out.below al a0 a1 a2 a3
       obtain ⟨qb0, qb1, qb2, qb3⟩ := bel4 S1.out.below bl b0 b1 b2 b3
       clear hb
       go_wp2_with fail
       (with_reducible refine (DR.out _ S1.out.below).mono ?_)
       rintro e w2 ⟨rfl, hb⟩
       have S2 := Lib.hid (S1.out.next hb)
       obtain ⟨-, -, y0, y1, y2, y3⟩ := id S2.out
       obtain ⟨qa0, qa1, qa2, qa3⟩ := bel4 S2.out.below al a0 a1 a2 a3
       obtain ⟨qb0, qb1, qb2, qb3⟩ := bel4 S2.out.below bl b0 b1 b2 b3
       clear hb
       go_wp2_with fail
       (with_reducible refine (BX.out _ S2.out.below).mono ?_)
       rintro e w3 ⟨rfl, hb⟩
       have S3 := Lib.hid (S2.out.next hb)
       obtain ⟨-, -, y0, y1, y2, y3⟩ := id S3.out
       obtain ⟨qa0, qa1, qa2, qa3⟩ := bel4 S3.out.below al a0 a1 a2 a3
       obtain ⟨qb0, qb1, qb2, qb3⟩ := bel4 S3.out.below bl b0 b1 b2 b3
       clear hb
       go_wp2_with fail
       (with_reducible refine (EX.out _ S3.out.below).mono ?_)
       rintro e w4 ⟨rfl, hb⟩
       have S4 := Lib.hid (S3.out.next hb)
       obtain ⟨-, -, y0, y1, y2, y3⟩ := id S4.out
       obtain ⟨qa0, qa1, qa2, qa3⟩ := bel4 S4.out.below al a0 a1 a2 a3
       obtain ⟨qb0, qb1, qb2, qb3⟩ := bel4 S4.out.below bl b0 b1 b2 b3
       clear hb
       go_wp2_with fail
       go_ret
       exact ⟨rfl, S4.out.below⟩
     ·rw [Bool.eq_false_iff.2 c4] at BX
      have C4 := Lib.hid c4
      clear c4
      obtain rfl : r = false := by rw [er]; exact decide_eq_false (fun h => C4.out h.2.2.2.2.1)
      clear er
      go_enter Tryz.func90, Tryz.ntmps90
      go_wp2_with fail
      (with_reducible refine (NM.out _ S0.out.below).mono ?_)
      rintro e w1 ⟨rfl, hb⟩
      have S1 := Lib.hid (S0.out.next hb)
      obtain ⟨-, -, y0, y1, y2, y3⟩ := id S1.out
      obtain ⟨qa0, qa1, qa2, qa3⟩ := bel4 S1.out.below al a0 a1 a2 a3
      obtain ⟨qb0, qb1, qb2, qb3⟩ := bel4 S1.out.below bl b0 b1 b2 b3
      clear hb
      go_wp2_with fail
      (with_reducible refine (DR.out _ S1.out.below).mono ?_)
      rintro e w2 ⟨rfl, hb⟩
      have S2 := Lib.hid (S1.out.next hb)
      obtain ⟨-, -, y0, y1, y2, y3⟩ := id S2.out
      obtain ⟨qa0, qa1, qa2, qa3⟩ := bel4 S2.out.below al a0 a1 a2 a3
      obtain ⟨qb0, qb1, qb2, qb3⟩ := bel4 S2.out.below bl b0 b1 b2 b3
      clear hb
      go_wp2_with fail
      (with_reducible refine (BX.out _ S2.out.below).mono ?_)
      rintro e w3 ⟨rfl, hb⟩
      have S3 := Lib.hid (S2.out.next hb)
      obtain ⟨-, -, y0, y1, y2, y3⟩ := id S3.out
      obtain ⟨qa0, qa1, qa2, qa3⟩ := bel4 S3.out.below al a0 a1 a2 a3
      obtain ⟨qb0, qb1, qb2, qb3⟩ := bel4 S3.out.below bl b0 b1 b2 b3
      clear hb
      go_wp2_with fail
      go_ret
      exact ⟨rfl, S3.out.below⟩
    ·rw [Bool.eq_false_iff.2 c3] at DR
     have C3 := Lib.hid c3
     clear c3
     obtain rfl : r = false := by rw [er]; exact decide_eq_false (fun h => C3.out h.2.2.2.1)
     clear er
     go_enter Tryz.func90, Tryz.ntmps90
     go_wp2_with fail
     (with_reducible refine (NM.out _ S0.out.below).mono ?_)
     rintro e w1 ⟨rfl, hb⟩
     have S1 := Lib.hid (S0.out.next hb)
     obtain ⟨-, -, y0, y1, y2, y3⟩ := id S1.out
     obtain ⟨qa0, qa1, qa2, qa3⟩ := bel4 S1.out.below al a0 a1 a2 a3
     obtain ⟨qb0, qb1, qb2, qb3⟩ := bel4 S1.out.below bl b0 b1 b2 b3
     clear hb
     go_wp2_with fail
     (with_reducible refine (DR.out _ S1.out.below).mono ?_)
     rintro e w2 ⟨rfl, hb⟩
     have S2 := Lib.hid (S1.out.next hb)
     obtain ⟨-, -, y0, y1, y2, y3⟩ := id S2.out
     obtain ⟨qa0, qa1, qa2, qa3⟩ := bel4 S2.out.below al a0 a1 a2 a3
     obtain ⟨qb0, qb1, qb2, qb3⟩ := bel4 S2.out.below bl b0 b1 b2 b3
     clear hb
     go_wp2_with fail
     go_ret
     exact ⟨rfl, S2.out.below⟩
   ·have gl : decide ((l.length : Int) > 1) = false := by rw [decide_eq_false_iff_not]; omega
    have glN : ¬ 1 < l.length := by omega
    have C2 := Lib.hid c2
    clear c2
    obtain rfl : r = false := by rw [er]; exact decide_eq_false (fun h => C2.out h.2.2.1)
    clear er
    go_enter Tryz.func90, Tryz.ntmps90
    go_wp2_with fail
    (with_reducible refine (NM.out _ S0.out.below).mono ?_)
    rintro e w1 ⟨rfl, hb⟩
    have S1 := Lib.hid (S0.out.next hb)
    obtain ⟨-, -, y0, y1, y2, y3⟩ := id S1.out
    clear hb
    go_wp2_with fail
    go_ret
    exact ⟨rfl, S1.out.below⟩
  ·have gn0 : ((n : Int) == 0) = false := by rw [beq_eq_false_iff_ne]; omega
   have C1 := Lib.hid c1
   clear c1
   obtain rfl : r = false := by rw [er]; exact decide_eq_false (fun h => C1.out h.2.1)
   clear er
   go_enter Tryz.func90, Tryz.ntmps90
   go_wp2_with fail
   (with_reducible refine (NM.out _ S0.out.below).mono ?_)
   rintro e w1 ⟨rfl, hb⟩
   have S1 := Lib.hid (S0.out.next hb)
   obtain ⟨-, -, y0, y1, y2, y3⟩ := id S1.out
   clear hb
   go_wp2_with fail
   go_ret
   exact ⟨rfl, S1.out.below⟩
 ·rw [Bool.eq_false_iff.2 c0] at NM
  have C0 := Lib.hid c0
  clear c0
  obtain rfl : r = false := by rw [er]; exact decide_eq_false (fun h => C0.out h.1)
  clear er
  go_enter Tryz.func90, Tryz.ntmps90
  go_wp2_with fail
  (with_reducible refine (NM.out _ S0.out.below).mono ?_)
  rintro e w1 ⟨rfl, hb⟩
  have S1 := Lib.hid (S0.out.next hb)
  obtain ⟨-, -, y0, y1, y2, y3⟩ := id S1.out
  clear hb
  go_wp2_with fail
  go_ret
  exact ⟨rfl, S1.out.below⟩
open Go.RowKit
theorem isItem_else (t : M.Tree) (f : Nat) (h2 : t.kind ≠ 2) (h3 : t.kind ≠ 3) (h4 : t.kind ≠ 4) (h5 : t.kind ≠ 5) (h6 : t.kind ≠ 6) (h7 : t.kind ≠ 7) (h8 : t.kind ≠ 8) (h9 : t.kind ≠ 9) : FnC 90 (M.itemF (f + 1)) t := by
 intro v w hv
 have hv0 := hv
 have hud := hud9
 obtain ⟨T, kv, rfl, hT, hok, hk⟩ := hv
 obtain ⟨r, er⟩ : ∃ r, r = (M.itemF (f + 1)) t := ⟨_, rfl⟩
 rw [<- er]
 rw [M.itemF, if_neg h2, if_neg h3, if_neg h4, if_neg h5, if_neg h6, if_neg h7, if_neg h8, if_neg h9] at er
 obtain ⟨K, eK⟩ : ∃ K, K = t.kind := ⟨_, rfl⟩
 obtain ⟨tx, ex⟩ : ∃ x, x = t.text := ⟨_, rfl⟩
 obtain ⟨n, en⟩ : ∃ n, n = t.num := ⟨_, rfl⟩
 obtain ⟨l, el⟩ : ∃ l, l = t.kids := ⟨_, rfl⟩
 try rw [<- eK] at er
 try rw [<- ex] at er
 try rw [<- en] at er
 try rw [<- el] at er
 rw [<- eK, <- en] at hv0 ⊢
 rw [<- ex] at hT
 rw [<- el] at hk
 obtain ⟨A, cap, rfl, _⟩ := id hk
 have HE := Lib.hid (M.bs_empty hT)
 have HTX := Lib.hid hT
 have hn := hok.2.1
 have hsz := hok.2.2
 rw [<- en] at hn
 have S0 := Lib.hid (NB.start w K T n (.slice A l.length cap))
 have gk2 : (K == 2) = false := by rw [beq_eq_false_iff_ne]; exact eK ▸ h2
 have gk3 : (K == 3) = false := by rw [beq_eq_false_iff_ne]; exact eK ▸ h3
 have gk4 : (K == 4) = false := by rw [beq_eq_false_iff_ne]; exact eK ▸ h4
 have gk5 : (K == 5) = false := by rw [beq_eq_false_iff_ne]; exact eK ▸ h5
 have gk6 : (K == 6) = false := by rw [beq_eq_false_iff_ne]; exact eK ▸ h6
 have gk7 : (K == 7) = false := by rw [beq_eq_false_iff_ne]; exact eK ▸ h7
 have gk8 : (K == 8) = false := by rw [beq_eq_false_iff_ne]; exact eK ▸ h8
 have gk9 : (K == 9) = false := by rw [beq_eq_false_iff_ne]; exact eK ▸ h9
 have NM := Lib.hid fun w' (_ : Below w.heap.size w w') => rname9_any T w' hsz
 rw [hT] at NM
 clear h2 h3 h4 h5 h6 h7 h8 h9
 have HKK := Lib.hid hk
 clear hT hok hk eK ex en el hsz hv0
 by_cases c0 : M.nameOk tx = true
 ·rw [c0] at NM
  have C0 := Lib.hid c0
  clear c0
  by_cases c1 : n = 0
  ·have gn0 : ((n : Int) == 0) = true := by rw [beq_iff_eq]; omega
   have C1 := Lib.hid c1
   clear c1
   obtain rfl : r = false := by rw [er]; skip
   clear er
   go_enter Tryz.func90, Tryz.ntmps90
   go_wp2_with fail
   (with_reducible refine (NM.out _ S0.out.below).mono ?_)
   rintro e w1 ⟨rfl, hb⟩
   have S1 := Lib.hid (S0.out.next hb)
   obtain ⟨-, -, y0, y1, y2, y3⟩ := id S1.out
   clear hb
   go_wp2_with fail
   go_ret
   exact ⟨rfl, S1.out.below⟩
  ·have gn0 : ((n : Int) == 0) = false := by rw [beq_eq_false_iff_ne]; omega
   have C1 := Lib.hid c1
   clear c1
   obtain rfl : r = false := by rw [er]; skip
   clear er
   go_enter Tryz.func90, Tryz.ntmps90
   go_wp2_with fail
   (with_reducible refine (NM.out _ S0.out.below).mono ?_)
   rintro e w1 ⟨rfl, hb⟩
   have S1 := Lib.hid (S0.out.next hb)
   obtain ⟨-, -, y0, y1, y2, y3⟩ := id S1.out
   clear hb
   go_wp2_with fail
   go_ret
   exact ⟨rfl, S1.out.below⟩
 ·rw [Bool.eq_false_iff.2 c0] at NM
  have C0 := Lib.hid c0
  clear c0
  obtain rfl : r = false := by rw [er]; skip
  clear er
  go_enter Tryz.func90, Tryz.ntmps90
  go_wp2_with fail
  (with_reducible refine (NM.out _ S0.out.below).mono ?_)
  rintro e w1 ⟨rfl, hb⟩
  have S1 := Lib.hid (S0.out.next hb)
  obtain ⟨-, -, y0, y1, y2, y3⟩ := id S1.out
  clear hb
  go_wp2_with fail
  go_ret
  exact ⟨rfl, S1.out.below⟩
theorem isItem_any : ∀ (f : Nat) (t : M.Tree), M.count t <= f -> FnC 90 (M.itemF f) t
 | 0, t, h => by have := M.count_pos t; omega
 | f + 1, t, h => by
  have hp : ∀ u, u ∈ t.kids -> FnC 91 (M.exprF f) u := fun u hu => isExpr_any f u (by have := M.count_kid hu; omega)
  have hq : ∀ u, u ∈ t.kids -> FnC 89 (M.blockB (M.itemF f)) u := fun u hu => risBlock_any u fun l hl i hi => by
   subst hl
   have h1 := M.count_kid hu
   have h2 := M.count_kid (t := u) (kid_mem hi)
   exact is_4 (isItem_any f (u.kids.getD i M.Tree.no) (by omega))
  by_cases h2 : t.kind = 2
  ·exact isItem_2 t f hp hq h2
  by_cases h3 : t.kind = 3
  ·exact isItem_3 t f hp hq h3
  by_cases h4 : t.kind = 4
  ·exact isItem_4 t f hp hq h4
  by_cases h5 : t.kind = 5
  ·exact isItem_5 t f hp hq h5
  by_cases h6 : t.kind = 6
  ·exact isItem_6 t f hp hq h6
  by_cases h7 : t.kind = 7
  ·exact isItem_7 t f hp hq h7
  by_cases h8 : t.kind = 8
  ·exact isItem_8 t f hp hq h8
  by_cases h9 : t.kind = 9
  ·exact isItem_9 t f hp hq h9
  exact isItem_else t f h2 h3 h4 h5 h6 h7 h8 h9
open Go.RowKit
theorem rcheck9_any (t : M.Tree) (hbg : M.count t <= 4611686018427387904) (v : Value) (w : World) (hv : NodeV w v t) : Calls Tryz.prog 15 #[v] w fun e w' => e = .returned (.int .i64 (M.checkE t)) /\ Below w.heap.size w w' := by
 have hv0 := hv
 have hud := hud9
 obtain ⟨T, kv, rfl, hT, hok, hk⟩ := hv
 obtain ⟨r, er⟩ : ∃ r, r = M.checkE t := ⟨_, rfl⟩
 rw [<- er]
 unfold M.checkE at er
 have hal : ∀ i, i < t.kids.length -> M.count (t.kids.getD i M.Tree.no) <= M.count t := fun i hi => by
  have := M.count_kid (t := t) (kid_mem hi); omega
 have hwr : wrap64 (M.count t : Nat) = (M.count t : Nat) := by unfold wrap64; omega
 obtain ⟨N, eN⟩ : ∃ N, N = M.count t := ⟨_, rfl⟩
 obtain ⟨D, eD⟩ : ∃ D, D = M.deep t := ⟨_, rfl⟩
 obtain ⟨K, eK⟩ : ∃ K, K = t.kind := ⟨_, rfl⟩
 obtain ⟨tx, ex⟩ : ∃ x, x = t.text := ⟨_, rfl⟩
 obtain ⟨n, en⟩ : ∃ n, n = t.num := ⟨_, rfl⟩
 obtain ⟨l, el⟩ : ∃ l, l = t.kids := ⟨_, rfl⟩
 have NN := Lib.hid fun w' (hb : Below w.heap.size w w') => rnodes_ind _ t (Nat.le_refl _) _ w' (hv0.below hb)
 have DD := Lib.hid fun w' (hb : Below w.heap.size w w') => rdeep_ind _ t (Nat.le_refl _) hbg _ w' (hv0.below hb)
 rw [hwr] at NN
 rw [<- eN] at er NN hal
 rw [<- eD] at er DD
 rw [<- eK] at er NN DD
 rw [<- ex] at er
 rw [<- en] at er NN DD
 rw [<- el] at er hal
 rw [<- eK, <- en]
 rw [<- ex] at hT
 rw [<- el] at hk
 obtain ⟨A, cap, rfl, _⟩ := id hk
 have HE := Lib.hid (M.bs_empty hT)
 have hn := hok.2.1
 rw [<- en] at hn
 have S0 := Lib.hid (NB.start w K T n (.slice A l.length cap))
 have AL := Lib.hid fun w' (hb : Below w.heap.size w w') => rall9_any (c := 4) (p := M.itemF N) l (fun i hi => is_4 (isItem_any N (l.getD i M.Tree.no) (hal i hi))) (.slice A l.length cap) w' (hk.below hb)
 clear hT hok hk eK ex en el hv0 hal hwr eN eD
 by_cases c0 : K = 1
 ·have gk : (K != 1) = false := by rw [bne_eq_false_iff_eq]; exact c0
  have C0 := Lib.hid c0
  clear c0
  by_cases c1 : tx = []
  ·have gt : T.toList.isEmpty = true := by rw [HE.out, decide_eq_true c1]
   have C1 := Lib.hid c1
   clear c1
   by_cases c2 : n = 0
   ·have gn : ((n : Int) != 0) = false := by rw [bne_eq_false_iff_eq]; omega
    have C2 := Lib.hid c2
    clear c2
    by_cases c3 : l.all (M.itemF N) = true
    ·rw [c3] at AL
     have C3 := Lib.hid c3
     clear c3
     by_cases c4 : 20000 < N
     ·have gN : decide ((N : Int) > 20000) = true := by rw [decide_eq_true_eq]; omega
      have C4 := Lib.hid c4
      clear c4
      obtain rfl : r = 3 := by rw [er]; rw [if_pos ⟨C0.out, C1.out, C2.out, C3.out⟩, if_pos (Or.inl C4.out)]
      clear er
      go_enter Tryz.func15, Tryz.ntmps15
      go_wp2_with fail
      (with_reducible refine (AL.out _ S0.out.below).mono ?_)
      rintro e w1 ⟨rfl, hb⟩
      have S1 := Lib.hid (S0.out.next hb)
      obtain ⟨-, -, y0, y1, y2, y3⟩ := id S1.out
      clear hb
      go_wp2_with fail
      (with_reducible refine (NN.out _ S1.out.below).mono ?_)
      rintro e w2 ⟨rfl, hb⟩
      have S2 := Lib.hid (S1.out.next hb)
      obtain ⟨-, -, y0, y1, y2, y3⟩ := id S2.out
      clear hb
      go_wp2_with fail
      go_ret
      exact ⟨rfl, S2.out.below⟩
     ·have gN : decide ((N : Int) > 20000) = false := by rw [decide_eq_false_iff_not]; omega
      have C4 := Lib.hid c4
      clear c4
      by_cases c5 : 60 < D
      ·have gD : decide ((D : Int) > 60) = true := by rw [decide_eq_true_eq]; omega
       have C5 := Lib.hid c5
       clear c5
       obtain rfl : r = 3 := by rw [er]; rw [if_pos ⟨C0.out, C1.out, C2.out, C3.out⟩, if_pos (Or.inr C5.out)]
       clear er
       go_enter Tryz.func15, Tryz.ntmps15
       go_wp2_with fail
       (with_reducible refine (AL.out _ S0.out.below).mono ?_)
       rintro e w1 ⟨rfl, hb⟩
       have S1 := Lib.hid (S0.out.next hb)
       obtain ⟨-, -, y0, y1, y2, y3⟩ := id S1.out
       clear hb
       go_wp2_with fail
       (with_reducible refine (NN.out _ S1.out.below).mono ?_)
       rintro e w2 ⟨rfl, hb⟩
       have S2 := Lib.hid (S1.out.next hb)
       obtain ⟨-, -, y0, y1, y2, y3⟩ := id S2.out
       clear hb
       go_wp2_with fail
       (with_reducible refine (DD.out _ S2.out.below).mono ?_)
       rintro e w3 ⟨rfl, hb⟩
       have S3 := Lib.hid (S2.out.next hb)
       obtain ⟨-, -, y0, y1, y2, y3⟩ := id S3.out
       clear hb
       go_wp2_with fail
       go_ret
       exact ⟨rfl, S3.out.below⟩
      ·have gD : decide ((D : Int) > 60) = false := by rw [decide_eq_false_iff_not]; omega
       have C5 := Lib.hid c5
       clear c5
       obtain rfl : r = 0 := by rw [er]; rw [if_pos ⟨C0.out, C1.out, C2.out, C3.out⟩, if_neg (fun h => Or.elim h C4.out C5.out)]
       clear er
       go_enter Tryz.func15, Tryz.ntmps15
       go_wp2_with fail
       (with_reducible refine (AL.out _ S0.out.below).mono ?_)
       rintro e w1 ⟨rfl, hb⟩
       have S1 := Lib.hid (S0.out.next hb)
       obtain ⟨-, -, y0, y1, y2, y3⟩ := id S1.out
       clear hb
       go_wp2_with fail
       (with_reducible refine (NN.out _ S1.out.below).mono ?_)
       rintro e w2 ⟨rfl, hb⟩
       have S2 := Lib.hid (S1.out.next hb)
       obtain ⟨-, -, y0, y1, y2, y3⟩ := id S2.out
       clear hb
       go_wp2_with fail
       (with_reducible refine (DD.out _ S2.out.below).mono ?_)
       rintro e w3 ⟨rfl, hb⟩
       have S3 := Lib.hid (S2.out.next hb)
       obtain ⟨-, -, y0, y1, y2, y3⟩ := id S3.out
       clear hb
       go_wp2_with fail
       go_ret
       exact ⟨rfl, S3.out.below⟩
    ·rw [Bool.eq_false_iff.2 c3] at AL
     have C3 := Lib.hid c3
     clear c3
     obtain rfl : r = 4 := by rw [er]; rw [if_neg (fun h => C3.out h.2.2.2)]
     clear er
     go_enter Tryz.func15, Tryz.ntmps15
     go_wp2_with fail
     (with_reducible refine (AL.out _ S0.out.below).mono ?_)
     rintro e w1 ⟨rfl, hb⟩
     have S1 := Lib.hid (S0.out.next hb)
     obtain ⟨-, -, y0, y1, y2, y3⟩ := id S1.out
     clear hb
     go_wp2_with fail
     go_ret
     exact ⟨rfl, S1.out.below⟩
   ·have gn : ((n : Int) != 0) = true := by rw [bne_iff_ne]; omega
    have C2 := Lib.hid c2
    clear c2
    obtain rfl : r = 4 := by rw [er]; rw [if_neg (fun h => C2.out h.2.2.1)]
    clear er
    go_enter Tryz.func15, Tryz.ntmps15
    go_wp2_with fail
    go_ret
    exact ⟨rfl, S0.out.below⟩
  ·have gt : T.toList.isEmpty = false := by rw [HE.out, decide_eq_false c1]
   have C1 := Lib.hid c1
   clear c1
   obtain rfl : r = 4 := by rw [er]; rw [if_neg (fun h => C1.out h.2.1)]
   clear er
   go_enter Tryz.func15, Tryz.ntmps15
   go_wp2_with fail
   go_ret
   exact ⟨rfl, S0.out.below⟩
 ·have gk : (K != 1) = true := by rw [bne_iff_ne]; exact c0
  have C0 := Lib.hid c0
  clear c0
  obtain rfl : r = 4 := by rw [er]; rw [if_neg (fun h => C0.out h.1)]
  clear er
  go_enter Tryz.func15, Tryz.ntmps15
  go_wp2_with fail
  go_ret
  exact ⟨rfl, S0.out.below⟩
end Go.Proofs.YtngpedcihajepaaGreatDoor
