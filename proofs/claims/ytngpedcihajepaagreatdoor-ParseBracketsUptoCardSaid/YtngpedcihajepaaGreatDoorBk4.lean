/-
  Merged out of the texts Sm9.
-/
import Derived.Deep.RegionHeld3
import Derived.Test.YtngpedcihajepaaGreatDoorProg
import Derived.WalkKit
import Derived.WalkSpells
import Derived.WalkLawsBesides
import Derived.Lib.Hide
import Derived.Below
import Derived.Deep.QuietTactic
import Derived.BigQuiet
import Derived.ProofKit
import Derived.ChangeMaps5
import Derived.Test.YtngpedcihajepaaGreatDoorBa1
import Derived.Test.YtngpedcihajepaaGreatDoorBa2
import Derived.Test.YtngpedcihajepaaGreatDoorBa3
import Derived.Test.YtngpedcihajepaaGreatDoorBa4
import Derived.Test.YtngpedcihajepaaGreatDoorBa5
import Derived.Test.YtngpedcihajepaaGreatDoorBa6
import Derived.Test.YtngpedcihajepaaGreatDoorBa7
import Derived.Test.YtngpedcihajepaaGreatDoorBa8
import Derived.Test.YtngpedcihajepaaGreatDoorBa9
import Derived.Test.YtngpedcihajepaaGreatDoorBa10
import Derived.Test.YtngpedcihajepaaGreatDoorBa11
import Derived.Test.YtngpedcihajepaaGreatDoorBa12
import Derived.Test.YtngpedcihajepaaGreatDoorBa13
import Derived.Test.YtngpedcihajepaaGreatDoorBa14
import Derived.Test.YtngpedcihajepaaGreatDoorBa15
import Derived.Test.YtngpedcihajepaaGreatDoorBa16
import Derived.Test.YtngpedcihajepaaGreatDoorBa17
namespace Go.Proofs.YtngpedcihajepaaGreatDoor
open Go.RowKit
set_option linter.unusedVariables false
set_option maxRecDepth 100000
set_option maxHeartbeats 4000000 in
theorem rsameN_ind (m : Nat) : ∀ (t : M.Tree), M.count t ≤ m → ∀ (v v2 : Value) (w : World), NodeV w v t → NodeV w v2 t → Calls Tryz.prog 12 #[v, v2] w fun e w' => e = .returned (.bool true) ∧ Below w.heap.size w w' := by
  induction m with
  | zero => intro t ht; have := M.count_pos t; omega
  | succ m ih =>
    intro t ht v v2 w hv hv2
    have IH := Lib.hid ih
    have hud : ∀ b : Bool, undef ≠ Value.bool b := fun b h => by cases h
    obtain ⟨T, kv, rfl, hT, hok, hk⟩ := hv
    obtain ⟨T', kv', rfl, hT', hok', hk'⟩ := hv2
    obtain rfl : T' = T := M.bs_inj (hT'.trans hT.symm)
    obtain ⟨K, eK⟩ : ∃ K, K = t.kind := ⟨_, rfl⟩
    obtain ⟨n, en⟩ : ∃ n, n = t.num := ⟨_, rfl⟩
    obtain ⟨l, el⟩ : ∃ l, l = t.kids := ⟨_, rfl⟩
    rw [← eK, ← en]
    rw [← el] at hk hk'
    have hsm : ∀ i, i < l.length → M.count (l.getD i M.Tree.no) ≤ m := fun i hi => by
      have := M.count_kid (t := t) (k := l.getD i M.Tree.no) (by rw [← el, List.getD_eq_getElem?_getD, List.getElem?_eq_getElem hi]; exact List.getElem_mem hi)
      omega
    have HSM := Lib.hid hsm
    obtain ⟨A, cap, rfl, _⟩ := id hk
    obtain ⟨A', cap', rfl, _⟩ := id hk'
    obtain ⟨-, h1, h2, h3⟩ := hk.kid
    obtain ⟨-, h1', h2', h3'⟩ := hk'.kid
    have HK := Lib.hid h3
    have HK' := Lib.hid h3'
    have e1 : (K == K) = true := by simp
    have e2 : (K != K) = false := by simp
    have e3 : (T'.toList == T'.toList) = true := by simp
    have e4 : ((n : Int) == (n : Int)) = true := by simp
    have e5 : ((n : Int) != (n : Int)) = false := by simp
    clear hT hT' hok hok' hk hk' eK en el hsm h3 h3' ih ht
    go_enter Tryz.func12, Tryz.ntmps12
    go_wp2_with fail
    obtain ⟨W2, eW2⟩ : ∃ W2, W2 = (w.alloc (.cells #[.int .i64 K, .string T', .int .u64 (n : Nat), .slice A l.length cap] 25)).alloc (.cells #[.int .i64 K, .string T', .int .u64 (n : Nat), .slice A' l.length cap'] 25) := ⟨_, rfl⟩
    have z0 : W2.cell? ⟨w.heap.size, 3, none⟩ = some (.slice A l.length cap) := by rw [eW2]; simp
    have z1 : W2.cell? ⟨w.heap.size + 1, 3, none⟩ = some (.slice A' l.length cap') := by rw [eW2]; simp
    have hz : w.heap.size + 1 < W2.heap.size := by rw [eW2]; simp
    have HBW := Lib.hid (show Below w.heap.size w W2 by rw [eW2]; exact (balloc8 w _).alloc (by simp) _)
    rw [← eW2]
    clear eW2
    go_loopw [37] (fun ti wr => ∃ k : Nat, k ≤ l.length ∧ ti = .int .i64 k ∧ Below W2.heap.size W2 wr) (fun ti _ => l.length - (intOf ti).toNat)
    case atStart => exact ⟨0, Nat.zero_le _, rfl, Below.refl _ _⟩
    case round =>
      obtain ⟨k, hk, rfl, hB⟩ := hrel
      have HB := Lib.hid hB
      have y0 := (hB.cell (p := ⟨w.heap.size, 3, none⟩) (by show w.heap.size < _; omega)).trans z0
      have y1 := (hB.cell (p := ⟨w.heap.size + 1, 3, none⟩) (by show w.heap.size + 1 < _; omega)).trans z1
      have hBw := hB.size
      by_cases hlt : k < l.length
      · obtain ⟨b, off, rfl, hbl, hcell⟩ := HK.out (by omega)
        obtain ⟨b', off', rfl, hbl', hcell'⟩ := HK'.out (by omega)
        obtain ⟨T2, A2, n3, c3, x0, x1, x2, x3, hn⟩ := hcell k hlt
        obtain ⟨T4, A4, n4, c4, x0', x1', x2', x3', hn'⟩ := hcell' k hlt
        have hc := HSM.out k hlt
        have bw := HBW.out.trans (hB.mono HBW.out.size)
        have p0 := (bw.cell (p := ⟨b, off + k * 4, none⟩) hbl).trans x0
        have p1 := (bw.cell (p := ⟨b, off + k * 4 + 1, none⟩) hbl).trans x1
        have p2 := (bw.cell (p := ⟨b, off + k * 4 + 2, none⟩) hbl).trans x2
        have p3 := (bw.cell (p := ⟨b, off + k * 4 + 3, none⟩) hbl).trans x3
        have q0 := (bw.cell (p := ⟨b', off' + k * 4, none⟩) hbl').trans x0'
        have q1 := (bw.cell (p := ⟨b', off' + k * 4 + 1, none⟩) hbl').trans x1'
        have q2 := (bw.cell (p := ⟨b', off' + k * 4 + 2, none⟩) hbl').trans x2'
        have q3 := (bw.cell (p := ⟨b', off' + k * 4 + 3, none⟩) hbl').trans x3'
        have k0 : w.heap.size < wr.heap.size := by omega
        have k1 : w.heap.size + 1 < wr.heap.size := by omega
        have hbw := Nat.lt_of_lt_of_le hbl bw.size
        have hbw' := Nat.lt_of_lt_of_le hbl' bw.size
        obtain ⟨u, eu⟩ : ∃ u, u = l.getD k M.Tree.no := ⟨_, rfl⟩
        rw [← eu] at p0 p2 q0 q2 hn hn' hc
        have HN := Lib.hid (hn.below bw.drew)
        have HN' := Lib.hid (hn'.below bw.drew)
        have CK := Lib.hid (IH.out u hc _ _ wr.drew HN.out HN'.out)
        obtain ⟨K2, eK2⟩ : ∃ K, K = u.kind := ⟨_, rfl⟩
        obtain ⟨n2, en2⟩ : ∃ n, n = u.num := ⟨_, rfl⟩
        rw [← eK2, ← en2] at CK
        rw [← eK2] at p0 q0
        rw [← en2] at p2 q2
        clear hcell hcell' x0 x1 x2 x3 x0' x1' x2' x3' hn hn' hc eu eK2 en2 HN HN' bw hB z0 z1
        go_wp2_with fail
        go_region_held3 (fun w' => w'.cell? ⟨w.heap.size, 3, none⟩ = some (.slice (some ⟨b, off, none⟩) l.length cap) ∧ w'.cell? ⟨w.heap.size + 1, 3, none⟩ = some (.slice (some ⟨b', off', none⟩) l.length cap') ∧ w'.cell? ⟨b, off + k * 4, none⟩ = some (.int .i64 K2) ∧ w'.cell? ⟨b, off + k * 4 + 1, none⟩ = some (.string T2) ∧ w'.cell? ⟨b, off + k * 4 + 2, none⟩ = some (.int .u64 (n2 : Nat)) ∧ w'.cell? ⟨b, off + k * 4 + 3, none⟩ = some (.slice A2 n3 c3) ∧ w'.cell? ⟨b', off' + k * 4, none⟩ = some (.int .i64 K2) ∧ w'.cell? ⟨b', off' + k * 4 + 1, none⟩ = some (.string T4) ∧ w'.cell? ⟨b', off' + k * 4 + 2, none⟩ = some (.int .u64 (n2 : Nat)) ∧ w'.cell? ⟨b', off' + k * 4 + 3, none⟩ = some (.slice A4 n4 c4))
          (first | exact ⟨y0, y1, p0, p1, p2, p3, q0, q1, q2, q3⟩ | exact ⟨(hb3.cell (p := ⟨w.heap.size, 3, none⟩) k0).trans y0, (hb3.cell (p := ⟨w.heap.size + 1, 3, none⟩) k1).trans y1, (hb3.cell (p := ⟨b, off + k * 4, none⟩) hbw).trans p0, (hb3.cell (p := ⟨b, off + k * 4 + 1, none⟩) hbw).trans p1, (hb3.cell (p := ⟨b, off + k * 4 + 2, none⟩) hbw).trans p2, (hb3.cell (p := ⟨b, off + k * 4 + 3, none⟩) hbw).trans p3, (hb3.cell (p := ⟨b', off' + k * 4, none⟩) hbw').trans q0, (hb3.cell (p := ⟨b', off' + k * 4 + 1, none⟩) hbw').trans q1, (hb3.cell (p := ⟨b', off' + k * 4 + 2, none⟩) hbw').trans q2, (hb3.cell (p := ⟨b', off' + k * 4 + 3, none⟩) hbw').trans q3⟩ | go_keep)
          (first
            | (go_at_call 12; (with_reducible refine (CK.out).mono ?_); rintro e w3 ⟨rfl, hb3⟩))
        have HB3 := Lib.hid (HB.out.drew.trans (hb3.mono HB.out.drew.size))
        clear hb3
        go_wp2_with fail
        refine ⟨⟨k + 1, by omega, by go_num, HB3.out⟩, ?_⟩
        simp [intOf]; omega
      · obtain rfl : k = l.length := by omega
        have HB3 := Lib.hid (HBW.out.trans (HB.out.mono HBW.out.size))
        clear hB
        go_wp2_with fail
        go_ret
        exact ⟨rfl, HB3.out⟩
end Go.Proofs.YtngpedcihajepaaGreatDoor
