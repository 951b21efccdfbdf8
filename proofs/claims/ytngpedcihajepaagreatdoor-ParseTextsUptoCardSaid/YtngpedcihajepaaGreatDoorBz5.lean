/-
 Merged out of the texts D9.
-/
import Derived.Lib.MinMax
import Derived.Test.YtngpedcihajepaaGreatDoorProg
import Derived.Deep.RegionHeld3
import Derived.WalkKit
import Derived.WalkSpells
import Derived.WalkLawsBesides
import Derived.Lib.Hide
import Derived.Below
import Derived.Deep.QuietTactic
import Derived.BigQuiet
import Derived.ProofKit
import Derived.ChangeMaps5
import Derived.Test.YtngpedcihajepaaGreatDoorBz1
import Derived.Test.YtngpedcihajepaaGreatDoorBz2
import Derived.Test.YtngpedcihajepaaGreatDoorBz3
import Derived.Test.YtngpedcihajepaaGreatDoorBz4
import Derived.Test.YtngpedcihajepaaGreatDoorSq9
set_option linter.unusedVariables false
set_option linter.unusedSimpArgs false
set_option maxRecDepth 100000
set_option maxHeartbeats 40000000
namespace Go.Proofs.YtngpedcihajepaaGreatDoor
open Go.RowKit
theorem deepL_take {l : List M.Tree} {k : Nat} (h : k < l.length) : M.deepL (l.take (k + 1)) = max (M.deepL (l.take k)) (M.deep (l.getD k M.Tree.no)) := by
 induction l generalizing k with
 | nil => simp at h
 | cons a r ih =>
  cases k with
  | zero => simp [M.deepL]
  | succ k =>
   have := ih (k := k) (by simpa using h)
   simp only [List.take_succ_cons, M.deepL, this]
   simp only [List.getD_cons_succ]
   omega
theorem countL_le (l : List M.Tree) (k : Nat) : M.countL (l.take k) <= M.countL l := by
 induction l generalizing k with
 | nil => simp
 | cons a r ih =>
  cases k with
  | zero => simp [M.countL]
  | succ k => rw [List.take_succ_cons, M.countL, M.countL]; have := ih k; omega
mutual
theorem deep_count : ∀ t : M.Tree, M.deep t <= M.count t
 | .node _ _ _ l => by
  rw [M.deep, M.count]
  have := deepL_count l
  omega
theorem deepL_count : ∀ l : List M.Tree, M.deepL l <= M.countL l
 | [] => by simp [M.deepL]
 | t :: r => by
  rw [M.deepL, M.countL]
  have h1 := deep_count t
  have h2 := deepL_count r
  omega
end
theorem rdeep_ind (m : Nat) : ∀ (t : M.Tree), M.count t <= m -> M.count t <= 4611686018427387904 -> ∀ (v : Value) (w : World), NodeV w v t -> Calls Tryz.prog 19 #[v] w fun e w' => e = .returned (.int .i64 (M.deep t : Nat)) /\ Below w.heap.size w w' := by
 induction m with
 | zero => intro t ht; have := M.count_pos t; omega
 | succ m ih =>
  intro t ht hbg v w hv
  have IH := Lib.hid ih
  have hud := hud9
  obtain ⟨T, kv, rfl, hT, hok, hk⟩ := hv
  obtain ⟨K, eK⟩ : ∃ K, K = t.kind := ⟨_, rfl⟩
  obtain ⟨n, en⟩ : ∃ n, n = t.num := ⟨_, rfl⟩
  obtain ⟨l, el⟩ : ∃ l, l = t.kids := ⟨_, rfl⟩
  have hct : M.deep t = M.deepL l + 1 := by rw [el]; cases t; rfl
  have hlc : M.countL l < M.count t := by rw [el]; cases t; rw [M.count]; show M.countL _ < _; simp only [M.Tree.kids]; omega
  rw [<- eK, <- en]
  rw [<- el] at hk
  rw [hct]
  have hsm : ∀ i, i < l.length -> M.count (l.getD i M.Tree.no) <= m := fun i hi => by
   have := M.count_kid (t := t) (k := l.getD i M.Tree.no) (by rw [<- el, List.getD_eq_getElem?_getD, List.getElem?_eq_getElem hi]; exact List.getElem_mem hi)
   omega
  have HSM := Lib.hid hsm
  have hdl := fun k => (show M.deepL (l.take k) <= 4611686018427387904 by have h1 := deepL_count (l.take k); have h2 := countL_le l k; omega)
  have HDL := Lib.hid hdl
  have HBG := Lib.hid (show ∀ i, i < l.length -> M.count (l.getD i M.Tree.no) <= 4611686018427387904 from fun i hi => by have := hsm i hi; have h1 := M.count_mem (l := l) (t := l.getD i M.Tree.no) (by rw [List.getD_eq_getElem?_getD, List.getElem?_eq_getElem hi]; exact List.getElem_mem hi); omega)
  obtain ⟨A, cap, rfl, _⟩ := id hk
  obtain ⟨-, h1, h2, h3⟩ := hk.kid
  have HK := Lib.hid h3
  have HB0 := Lib.hid (balloc8 w (.cells #[.int .i64 K, .string T, .int .u64 (n : Nat), .slice A l.length cap] 25))
  clear hT hok hk eK en el hct hsm h3 ih ht hlc hbg hdl
  go_enter Tryz.func19, Tryz.ntmps19
  go_wp2_with fail
  go_loopw [3, 9] (fun ta ti wr => ∃ k : Nat, k <= l.length /\ ti = .int .i64 k /\ ta = .int .i64 (M.deepL (l.take k) : Nat) /\ Below w.heap.size w wr) (fun _ ti _ => l.length - (intOf ti).toNat)
  case atStart => exact ⟨0, Nat.zero_le _, rfl, rfl, HB0.out⟩
  case round =>
   obtain ⟨k, hk, rfl, rfl, hB⟩ := hrel
   have HB := Lib.hid hB
   clear hB
   by_cases hlt : k < l.length
   ·obtain ⟨b, off, rfl, hbl, hcell⟩ := HK.out (by omega)
    obtain ⟨T2, A2, n3, c3, x0, x1, x2, x3, hn⟩ := hcell k hlt
    have p0 := (HB.out.cell (p := ⟨b, off + k * 4, none⟩) hbl).trans x0
    have p1 := (HB.out.cell (p := ⟨b, off + k * 4 + 1, none⟩) hbl).trans x1
    have p2 := (HB.out.cell (p := ⟨b, off + k * 4 + 2, none⟩) hbl).trans x2
    have p3 := (HB.out.cell (p := ⟨b, off + k * 4 + 3, none⟩) hbl).trans x3
    have HT := Lib.hid (deepL_take hlt)
    have hc := HSM.out k hlt
    have hcb := HBG.out k hlt
    obtain ⟨u, eu⟩ : ∃ u, u = l.getD k M.Tree.no := ⟨_, rfl⟩
    rw [<- eu] at p0 p2 hn hc hcb HT
    obtain ⟨K2, eK2⟩ : ∃ K, K = u.kind := ⟨_, rfl⟩
    obtain ⟨n2, en2⟩ : ∃ n, n = u.num := ⟨_, rfl⟩
    rw [<- eK2] at p0 hn
    rw [<- en2] at p2 hn
    have HN := Lib.hid hn
    have HBX := Lib.hid fun o => HB.out.alloc HB.out.size o
    have CK := Lib.hid fun w' (hb : Below w.heap.size w w') => IH.out u hc hcb _ w' (HN.out.below hb)
    have HD1 := Lib.hid (HDL.out (k + 1))
    clear hcell x0 x1 x2 x3 eu eK2 en2 hn hc hcb
    go_wp2_with fail
    (with_reducible refine (CK.out _ (HBX.out _)).mono ?_)
    rintro e w2 ⟨rfl, hb2⟩
    have HB2 := Lib.hid ((HBX.out _).trans (hb2.mono (HBX.out _).size))
    clear hb2
    go_wp2_with fail
    go_roundw
    case rel => exact ⟨k + 1, by omega, by go_num, by rw [HT.out]; go_num, HB2.out⟩
    case measure => simp [intOf]; omega
   ·obtain rfl : k = l.length := by omega
    have hd := HDL.out l.length
    rw [List.take_length] at hd ⊢
    go_wp2_with fail
    go_ret
    exact ⟨rfl, HB.out⟩
end Go.Proofs.YtngpedcihajepaaGreatDoor
