/-
  Merged out of the texts N9 Nb9.
-/
import Derived.Deep.RegionHeld3
import Derived.Test.YtngpedcihajepaaGreatDoorProg
import Derived.WalkKit
import Derived.WalkSpells
import Derived.WalkLawsBesides
import Derived.Lib.Hide
import Derived.Below
import Derived.Deep.QuietTactic
import Derived.BigQuiet
import Derived.ProofKit
import Derived.ChangeMaps5
import Derived.Test.YtngpedcihajepaaGreatDoorBa1
import Derived.Test.YtngpedcihajepaaGreatDoorBa2
import Derived.Test.YtngpedcihajepaaGreatDoorBa3
import Derived.Test.YtngpedcihajepaaGreatDoorBa4
import Derived.Test.YtngpedcihajepaaGreatDoorBa5
import Derived.Test.YtngpedcihajepaaGreatDoorBa6
import Derived.Test.YtngpedcihajepaaGreatDoorBa7
import Derived.Test.YtngpedcihajepaaGreatDoorBa8
import Derived.Test.YtngpedcihajepaaGreatDoorBa9
import Derived.Test.YtngpedcihajepaaGreatDoorBa10
import Derived.Test.YtngpedcihajepaaGreatDoorBa11
import Derived.Test.YtngpedcihajepaaGreatDoorBa12
import Derived.Test.YtngpedcihajepaaGreatDoorBa13
import Derived.Test.YtngpedcihajepaaGreatDoorBa14
import Derived.Test.YtngpedcihajepaaGreatDoorBa15
import Derived.Test.YtngpedcihajepaaGreatDoorBa16
import Derived.Test.YtngpedcihajepaaGreatDoorBa17
import Derived.Test.YtngpedcihajepaaGreatDoorBc1
import Derived.Test.YtngpedcihajepaaGreatDoorBc4
namespace Go.Proofs.YtngpedcihajepaaGreatDoor
open Go.RowKit
set_option linter.unusedVariables false
set_option maxRecDepth 100000
set_option maxHeartbeats 2000000 in
theorem rnodes_ind (m : Nat) : ∀ (t : M.Tree), M.count t ≤ m → ∀ (v : Value) (w : World), NodeV w v t → Calls Tryz.prog 17 #[v] w fun e w' => e = .returned (.int .i64 (wrap64 (M.count t : Nat))) ∧ Below w.heap.size w w' := by
  induction m with
  | zero => intro t ht; have := M.count_pos t; omega
  | succ m ih =>
    intro t ht v w hv
    have IH := Lib.hid ih
    have hud : ∀ b : Bool, undef ≠ Value.bool b := fun b h => by cases h
    obtain ⟨T, kv, rfl, hT, hok, hk⟩ := hv
    obtain ⟨K, eK⟩ : ∃ K, K = t.kind := ⟨_, rfl⟩
    obtain ⟨n, en⟩ : ∃ n, n = t.num := ⟨_, rfl⟩
    obtain ⟨l, el⟩ : ∃ l, l = t.kids := ⟨_, rfl⟩
    have hct : M.count t = 1 + M.countL l := by rw [el]; cases t; rfl
    rw [← eK, ← en]
    rw [← el] at hk
    rw [hct]
    have hsm : ∀ i, i < l.length → M.count (l.getD i M.Tree.no) ≤ m := fun i hi => by
      have := M.count_kid (t := t) (k := l.getD i M.Tree.no) (by rw [← el, List.getD_eq_getElem?_getD, List.getElem?_eq_getElem hi]; exact List.getElem_mem hi)
      omega
    have HSM := Lib.hid hsm
    obtain ⟨A, cap, rfl, _⟩ := id hk
    obtain ⟨-, h1, h2, h3⟩ := hk.kid
    have HK := Lib.hid h3
    have HB0 := Lib.hid (balloc8 w (.cells #[.int .i64 K, .string T, .int .u64 (n : Nat), .slice A l.length cap] 25))
    clear hT hok hk eK en el hct hsm h3 ih ht
    go_enter Tryz.func17, Tryz.ntmps17
    go_wp2_with fail
    go_loopw [3, 9] (fun ta ti wr => ∃ k : Nat, k ≤ l.length ∧ ti = .int .i64 k ∧ ta = .int .i64 (wrap64 ((1 + M.countL (l.take k) : Nat) : Int)) ∧ Below w.heap.size w wr) (fun _ ti _ => l.length - (intOf ti).toNat)
    case atStart => exact ⟨0, Nat.zero_le _, rfl, by simp [M.countL, wrap64], HB0.out⟩
    case round =>
      obtain ⟨k, hk, rfl, rfl, hB⟩ := hrel
      have HB := Lib.hid hB
      clear hB
      by_cases hlt : k < l.length
      · obtain ⟨b, off, rfl, hbl, hcell⟩ := HK.out (by omega)
        obtain ⟨T2, A2, n3, c3, x0, x1, x2, x3, hn⟩ := hcell k hlt
        have p0 := (HB.out.cell (p := ⟨b, off + k * 4, none⟩) hbl).trans x0
        have p1 := (HB.out.cell (p := ⟨b, off + k * 4 + 1, none⟩) hbl).trans x1
        have p2 := (HB.out.cell (p := ⟨b, off + k * 4 + 2, none⟩) hbl).trans x2
        have p3 := (HB.out.cell (p := ⟨b, off + k * 4 + 3, none⟩) hbl).trans x3
        have HT := Lib.hid (countL_take hlt)
        have hc := HSM.out k hlt
        obtain ⟨u, eu⟩ : ∃ u, u = l.getD k M.Tree.no := ⟨_, rfl⟩
        rw [← eu] at p0 p2 hn hc HT
        obtain ⟨K2, eK2⟩ : ∃ K, K = u.kind := ⟨_, rfl⟩
        obtain ⟨n2, en2⟩ : ∃ n, n = u.num := ⟨_, rfl⟩
        rw [← eK2] at p0 hn
        rw [← en2] at p2 hn
        have HN := Lib.hid hn
        have HBX := Lib.hid fun o => HB.out.alloc HB.out.size o
        have CK := Lib.hid fun w' (hb : Below w.heap.size w w') => IH.out u hc _ w' (HN.out.below hb)
        clear hcell x0 x1 x2 x3 eu eK2 en2 hn hc
        go_wp2_with fail
        (with_reducible refine (CK.out _ (HBX.out _)).mono ?_)
        rintro e w2 ⟨rfl, hb2⟩
        have HB2 := Lib.hid ((HBX.out _).trans (hb2.mono (HBX.out _).size))
        clear hb2
        go_wp2_with fail
        go_roundw
        case rel => exact ⟨k + 1, by omega, by go_num, by rw [wrap64_add, HT.out]; congr 2; omega, HB2.out⟩
        case measure => simp [intOf]; omega
      · obtain rfl : k = l.length := by omega
        rw [List.take_length]
        go_wp2_with fail
        go_ret
        exact ⟨rfl, HB.out⟩
end Go.Proofs.YtngpedcihajepaaGreatDoor
namespace Go.Proofs.YtngpedcihajepaaGreatDoor
open Go.RowKit
set_option linter.unusedVariables false
set_option maxRecDepth 100000
/-- what 'is' answers of a tree -/
def IsC (c : Int) (p : M.Tree → Bool) (t : M.Tree) : Prop := ∀ (v : Value) (w : World), NodeV w v t → Calls Tryz.prog 46 #[v, .int .i64 c] w fun e w' => e = .returned (.bool (p t)) ∧ Below w.heap.size w w'
/-- what a function of a node answers -/
def FnC (f : Nat) (p : M.Tree → Bool) (t : M.Tree) : Prop := ∀ (v : Value) (w : World), NodeV w v t → Calls Tryz.prog f #[v] w fun e w' => e = .returned (.bool (p t)) ∧ Below w.heap.size w w'
set_option maxHeartbeats 1000000 in
theorem is_0 {p : M.Tree → Bool} {t : M.Tree} (h : FnC 86 p t) : IsC 0 p t := by
  intro v w hv
  have H := Lib.hid fun w' (hb : Below w.heap.size w w') => h v w' (hv.below hb)
  obtain ⟨T, kv, rfl, hT, hok, A, cap, rfl, _⟩ := hv
  have HB := Lib.hid fun o => balloc8 w o
  have HB := Lib.hid fun o => balloc8 w o
  clear hT hok
  go_enter Tryz.func46, Tryz.ntmps46
  go_wp2_with fail
  (with_reducible refine (H.out _ (HB.out _)).mono ?_)
  rintro e w1 ⟨rfl, hb⟩
  have HB1 := Lib.hid (bnext8 (HB.out _) hb)
  clear hb
  go_wp2_with fail
  go_ret
  exact ⟨rfl, HB1.out⟩
set_option maxHeartbeats 1000000 in
theorem is_1 {p : M.Tree → Bool} {t : M.Tree} (h : FnC 87 p t) : IsC 1 p t := by
  intro v w hv
  have H := Lib.hid fun w' (hb : Below w.heap.size w w') => h v w' (hv.below hb)
  obtain ⟨T, kv, rfl, hT, hok, A, cap, rfl, _⟩ := hv
  have HB := Lib.hid fun o => balloc8 w o
  have HB := Lib.hid fun o => balloc8 w o
  clear hT hok
  go_enter Tryz.func46, Tryz.ntmps46
  go_wp2_with fail
  (with_reducible refine (H.out _ (HB.out _)).mono ?_)
  rintro e w1 ⟨rfl, hb⟩
  have HB1 := Lib.hid (bnext8 (HB.out _) hb)
  clear hb
  go_wp2_with fail
  go_ret
  exact ⟨rfl, HB1.out⟩
set_option maxHeartbeats 1000000 in
theorem is_2 {p : M.Tree → Bool} {t : M.Tree} (h : FnC 88 p t) : IsC 2 p t := by
  intro v w hv
  have H := Lib.hid fun w' (hb : Below w.heap.size w w') => h v w' (hv.below hb)
  obtain ⟨T, kv, rfl, hT, hok, A, cap, rfl, _⟩ := hv
  have HB := Lib.hid fun o => balloc8 w o
  have HB := Lib.hid fun o => balloc8 w o
  clear hT hok
  go_enter Tryz.func46, Tryz.ntmps46
  go_wp2_with fail
  (with_reducible refine (H.out _ (HB.out _)).mono ?_)
  rintro e w1 ⟨rfl, hb⟩
  have HB1 := Lib.hid (bnext8 (HB.out _) hb)
  clear hb
  go_wp2_with fail
  go_ret
  exact ⟨rfl, HB1.out⟩
set_option maxHeartbeats 1000000 in
theorem is_3 {p : M.Tree → Bool} {t : M.Tree} (h : FnC 89 p t) : IsC 3 p t := by
  intro v w hv
  have H := Lib.hid fun w' (hb : Below w.heap.size w w') => h v w' (hv.below hb)
  obtain ⟨T, kv, rfl, hT, hok, A, cap, rfl, _⟩ := hv
  have HB := Lib.hid fun o => balloc8 w o
  have HB := Lib.hid fun o => balloc8 w o
  clear hT hok
  go_enter Tryz.func46, Tryz.ntmps46
  go_wp2_with fail
  (with_reducible refine (H.out _ (HB.out _)).mono ?_)
  rintro e w1 ⟨rfl, hb⟩
  have HB1 := Lib.hid (bnext8 (HB.out _) hb)
  clear hb
  go_wp2_with fail
  go_ret
  exact ⟨rfl, HB1.out⟩
set_option maxHeartbeats 1000000 in
theorem is_4 {p : M.Tree → Bool} {t : M.Tree} (h : FnC 90 p t) : IsC 4 p t := by
  intro v w hv
  have H := Lib.hid fun w' (hb : Below w.heap.size w w') => h v w' (hv.below hb)
  obtain ⟨T, kv, rfl, hT, hok, A, cap, rfl, _⟩ := hv
  have HB := Lib.hid fun o => balloc8 w o
  have HB := Lib.hid fun o => balloc8 w o
  clear hT hok
  go_enter Tryz.func46, Tryz.ntmps46
  go_wp2_with fail
  (with_reducible refine (H.out _ (HB.out _)).mono ?_)
  rintro e w1 ⟨rfl, hb⟩
  have HB1 := Lib.hid (bnext8 (HB.out _) hb)
  clear hb
  go_wp2_with fail
  go_ret
  exact ⟨rfl, HB1.out⟩
set_option maxHeartbeats 1000000 in
theorem is_5 {p : M.Tree → Bool} {t : M.Tree} (h : FnC 91 p t) : IsC 5 p t := by
  intro v w hv
  have H := Lib.hid fun w' (hb : Below w.heap.size w w') => h v w' (hv.below hb)
  obtain ⟨T, kv, rfl, hT, hok, A, cap, rfl, _⟩ := hv
  have HB := Lib.hid fun o => balloc8 w o
  have HB := Lib.hid fun o => balloc8 w o
  clear hT hok
  go_enter Tryz.func46, Tryz.ntmps46
  go_wp2_with fail
  (with_reducible refine (H.out _ (HB.out _)).mono ?_)
  rintro e w1 ⟨rfl, hb⟩
  have HB1 := Lib.hid (bnext8 (HB.out _) hb)
  clear hb
  go_wp2_with fail
  go_ret
  exact ⟨rfl, HB1.out⟩
end Go.Proofs.YtngpedcihajepaaGreatDoor
