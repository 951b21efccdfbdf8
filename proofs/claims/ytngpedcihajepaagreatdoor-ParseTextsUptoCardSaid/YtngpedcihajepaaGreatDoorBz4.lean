/-
 Merged out of the texts N9.
-/
import Derived.Deep.RegionHeld3
import Derived.Test.YtngpedcihajepaaGreatDoorProg
import Derived.WalkKit
import Derived.WalkSpells
import Derived.WalkLawsBesides
import Derived.Lib.Hide
import Derived.Below
import Derived.Deep.QuietTactic
import Derived.BigQuiet
import Derived.ProofKit
import Derived.ChangeMaps5
import Derived.Test.YtngpedcihajepaaGreatDoorBz1
import Derived.Test.YtngpedcihajepaaGreatDoorBz2
import Derived.Test.YtngpedcihajepaaGreatDoorBz3
import Derived.Test.YtngpedcihajepaaGreatDoorSq9
set_option linter.unusedVariables false
set_option linter.unusedSimpArgs false
set_option maxRecDepth 100000
set_option maxHeartbeats 40000000
namespace Go.Proofs.YtngpedcihajepaaGreatDoor
open Go.RowKit
theorem wrap64_add (a b : Int) : wrap64 (wrap64 a + wrap64 b) = wrap64 (a + b) := by
 unfold wrap64
 omega
theorem countL_take {l : List M.Tree} {k : Nat} (h : k < l.length) : M.countL (l.take (k + 1)) = M.countL (l.take k) + M.count (l.getD k M.Tree.no) := by
 induction l generalizing k with
 | nil => simp at h
 | cons a r ih =>
  cases k with
  | zero => simp [M.countL]
  | succ k =>
   have := ih (k := k) (by simpa using h)
   simp only [List.take_succ_cons, M.countL, this]
   simp only [List.getD_cons_succ]
   omega
theorem rnodes_ind (m : Nat) : ∀ (t : M.Tree), M.count t <= m -> ∀ (v : Value) (w : World), NodeV w v t -> Calls Tryz.prog 17 #[v] w fun e w' => e = .returned (.int .i64 (wrap64 (M.count t : Nat))) /\ Below w.heap.size w w' := by
 induction m with
 | zero => intro t ht; have := M.count_pos t; omega
 | succ m ih =>
  intro t ht v w hv
  have IH := Lib.hid ih
  have hud := hud9
  obtain ⟨T, kv, rfl, hT, hok, hk⟩ := hv
  obtain ⟨K, eK⟩ : ∃ K, K = t.kind := ⟨_, rfl⟩
  obtain ⟨n, en⟩ : ∃ n, n = t.num := ⟨_, rfl⟩
  obtain ⟨l, el⟩ : ∃ l, l = t.kids := ⟨_, rfl⟩
  have hct : M.count t = 1 + M.countL l := by rw [el]; cases t; rfl
  rw [<- eK, <- en]
  rw [<- el] at hk
  rw [hct]
  have hsm : ∀ i, i < l.length -> M.count (l.getD i M.Tree.no) <= m := fun i hi => by
   have := M.count_kid (t := t) (k := l.getD i M.Tree.no) (by rw [<- el, List.getD_eq_getElem?_getD, List.getElem?_eq_getElem hi]; exact List.getElem_mem hi)
   omega
  have HSM := Lib.hid hsm
  obtain ⟨A, cap, rfl, _⟩ := id hk
  obtain ⟨-, h1, h2, h3⟩ := hk.kid
  have HK := Lib.hid h3
  have HB0 := Lib.hid (balloc8 w (.cells #[.int .i64 K, .string T, .int .u64 (n : Nat), .slice A l.length cap] 25))
  clear hT hok hk eK en el hct hsm h3 ih ht
  go_enter Tryz.func17, Tryz.ntmps17
  go_wp2_with fail
  go_loopw [3, 9] (fun ta ti wr => ∃ k : Nat, k <= l.length /\ ti = .int .i64 k /\ ta = .int .i64 (wrap64 ((1 + M.countL (l.take k) : Nat) : Int)) /\ Below w.heap.size w wr) (fun _ ti _ => l.length - (intOf ti).toNat)
  case atStart => exact ⟨0, Nat.zero_le _, rfl, by simp [M.countL, wrap64], HB0.out⟩
  case round =>
   obtain ⟨k, hk, rfl, rfl, hB⟩ := hrel
   have HB := Lib.hid hB
   clear hB
   by_cases hlt : k < l.length
   ·obtain ⟨b, off, rfl, hbl, hcell⟩ := HK.out (by omega)
    obtain ⟨T2, A2, n3, c3, x0, x1, x2, x3, hn⟩ := hcell k hlt
    have p0 := (HB.out.cell (p := ⟨b, off + k * 4, none⟩) hbl).trans x0
    have p1 := (HB.out.cell (p := ⟨b, off + k * 4 + 1, none⟩) hbl).trans x1
    have p2 := (HB.out.cell (p := ⟨b, off + k * 4 + 2, none⟩) hbl).trans x2
    have p3 := (HB.out.cell (p := ⟨b, off + k * 4 + 3, none⟩) hbl).trans x3
    have HT := Lib.hid (countL_take hlt)
    have hc := HSM.out k hlt
    obtain ⟨u, eu⟩ : ∃ u, u = l.getD k M.Tree.no := ⟨_, rfl⟩
    rw [<- eu] at p0 p2 hn hc HT
    obtain ⟨K2, eK2⟩ : ∃ K, K = u.kind := ⟨_, rfl⟩
    obtain ⟨n2, en2⟩ : ∃ n, n = u.num := ⟨_, rfl⟩
    rw [<- eK2] at p0 hn
    rw [<- en2] at p2 hn
    have HN := Lib.hid hn
    have HBX := Lib.hid fun o => HB.out.alloc HB.out.size o
    have CK := Lib.hid fun w' (hb : Below w.heap.size w w') => IH.out u hc _ w' (HN.out.below hb)
    clear hcell x0 x1 x2 x3 eu eK2 en2 hn hc
    go_wp2_with fail
    (with_reducible refine (CK.out _ (HBX.out _)).mono ?_)
    rintro e w2 ⟨rfl, hb2⟩
    have HB2 := Lib.hid ((HBX.out _).trans (hb2.mono (HBX.out _).size))
    clear hb2
    go_wp2_with fail
    go_roundw
    case rel => exact ⟨k + 1, by omega, by go_num, by rw [wrap64_add, HT.out]; congr 2; omega, HB2.out⟩
    case measure => simp [intOf]; omega
   ·obtain rfl : k = l.length := by omega
    rw [List.take_length]
    go_wp2_with fail
    go_ret
    exact ⟨rfl, HB.out⟩
end Go.Proofs.YtngpedcihajepaaGreatDoor
