/-
 Merged out of the texts Qa9 Qb9.
-/
import Derived.Lib.MinMax
import Derived.Deep.RegionHeld3
import Derived.WalkKit
import Derived.ProofKit
import Derived.ChangeMaps5
import Derived.Test.YtngpedcihajepaaGreatDoorProg
import Derived.WalkSpells
import Derived.WalkLawsBesides
import Derived.Lib.Hide
import Derived.Below
import Derived.Deep.QuietTactic
import Derived.BigQuiet
import Derived.Maps.Own
import Derived.Maps.OwnOps
import Derived.Maps.Views
import Derived.OwnWalk
import Derived.WalkMore
import Derived.Deep.LoopGhost
import Derived.Deep.AppendLies
import Derived.Defers
import Derived.Recover
import Derived.Test.YtngpedcihajepaaGreatDoorShelf
import Derived.Test.YtngpedcihajepaaGreatDoorBz1
import Derived.Test.YtngpedcihajepaaGreatDoorBz2
import Derived.Test.YtngpedcihajepaaGreatDoorBz3
import Derived.Test.YtngpedcihajepaaGreatDoorBz4
import Derived.Test.YtngpedcihajepaaGreatDoorBz5
import Derived.Test.YtngpedcihajepaaGreatDoorBz6
import Derived.Test.YtngpedcihajepaaGreatDoorBz7
import Derived.Test.YtngpedcihajepaaGreatDoorBz9
import Derived.Test.YtngpedcihajepaaGreatDoorSq9
set_option linter.unusedVariables false
set_option linter.unusedSimpArgs false
set_option maxRecDepth 100000
set_option maxHeartbeats 40000000
namespace Go.Proofs.YtngpedcihajepaaGreatDoor
open Go.RowKit
namespace M
def stepO (n : Nat) (t : List Nat) : Nat := if t = [40] \/ t = [91] \/ t = [123] then n + 1 else if t = [41] \/ t = [93] \/ t = [125] then n - 1 else n
def openAt : Nat -> List Tok -> Option Nat
 | _, [] => none
 | n, t :: r => if 200 < stepO n t.text then some t.at_ else openAt (stepO n t.text) r
def sizeE (t : Tree) : Int := if 20000 < count t \/ 60 < deep t then 3 else 0
end M
theorem view_get {A : List T8} {ts : List M.Tok} (h : View A ts) {k : Nat} (hk : k < A.length) : ∃ t, ts.drop k = t :: ts.drop (k + 1) /\ (A.getD k T8.no).kind = t.kind /\ M.bs (A.getD k T8.no).text = t.text /\ (A.getD k T8.no).off = (t.at_ : Int) := by
 have hl := h.len
 have hk2 : k < ts.length := by omega
 refine ⟨ts[k], List.drop_eq_getElem_cons hk2, ?_⟩
 have e := congrArg (fun l => l[k]?) h
 simp only [List.getElem?_map, List.getElem?_eq_getElem hk, List.getElem?_eq_getElem hk2, Option.map_some, Option.some.injEq, Prod.mk.injEq] at e
 rw [List.getD_eq_getElem?_getD, List.getElem?_eq_getElem hk]
 exact e
theorem tooMany_any (v : Value) (A : List T8) (ts : List M.Tok) (w : World) (hv : TokS w v A) (hV : View A ts) : Calls Tryz.prog 25 #[v] w fun e w' => (∀ q : Nat, M.openAt 0 ts = some q -> e = .returned (.tuple #[.int .i64 (q : Nat), .bool true])) /\ (M.openAt 0 ts = none -> e = .returned (.tuple #[.int .i64 0, .bool false])) /\ Below w.heap.size w w' := by
 have hud := hud9
 obtain ⟨hl, a, cap, rfl, hcap, hc⟩ := hv
 have HC := Lib.hid hc
 have HV := Lib.hid hV
 have HLN := Lib.hid hV.len
 have HB0 := Lib.hid (Below.refl w.heap.size w)
 clear hc hV
 go_enter Tryz.func25, Tryz.ntmps25
 go_wp2_with fail
 go_loopw [4, 9] (fun to ti wr => ∃ k n : Nat, k <= A.length /\ ti = .int .i64 k /\ to = .int .i64 n /\ n <= 200 /\ M.openAt 0 ts = M.openAt n (ts.drop k) /\ Below w.heap.size w wr) (fun _ ti _ => A.length - (intOf ti).toNat)
 case atStart => exact ⟨0, 0, Nat.zero_le _, rfl, rfl, by omega, rfl, HB0.out⟩
 case round =>
  obtain ⟨k, n, hk, rfl, rfl, hn, ho, hB⟩ := hrel
  have HB := Lib.hid hB
  have HO := Lib.hid ho
  clear hB ho
  by_cases hlt : k < A.length
  ·obtain ⟨b, off, rfl, hbl, hcell⟩ := HC.out (by omega)
   obtain ⟨c0, c1, c2⟩ := hcell k hlt
   obtain ⟨t, hd, g1, g2, g3⟩ := view_get HV.out hlt
   rw [g3] at c2
   obtain ⟨T, eT⟩ : ∃ T, T = (A.getD k T8.no).text := ⟨_, rfl⟩
   obtain ⟨kk, ek⟩ : ∃ kk, kk = (A.getD k T8.no).kind := ⟨_, rfl⟩
   rw [<- eT] at c1 g2
   rw [<- ek] at c0
   have p0 := (HB.out.cell (p := ⟨b, off + k * 3, none⟩) hbl).trans c0
   have p1 := (HB.out.cell (p := ⟨b, off + k * 3 + 1, none⟩) hbl).trans c1
   have p2 := (HB.out.cell (p := ⟨b, off + k * 3 + 2, none⟩) hbl).trans c2
   have HBX := Lib.hid fun o => HB.out.alloc HB.out.size o
   obtain ⟨q, eq⟩ : ∃ q, q = t.at_ := ⟨_, rfl⟩
   rw [<- eq] at p2
   have HOD := Lib.hid (show M.openAt 0 ts = if 200 < M.stepO n (M.bs T) then some q else M.openAt (M.stepO n (M.bs T)) (ts.drop (k + 1)) by rw [HO.out, hd, M.openAt, g2, eq])
   clear hcell c0 c1 c2 hd g1 g2 g3 eT ek eq
   by_cases e40 : T = ⟨#[40]⟩
   ·subst e40
    have HST := Lib.hid (show M.stepO n (M.bs ⟨#[40]⟩) = n + 1 by simp [M.stepO, M.bs])
    have HOM := Lib.hid (show M.openAt 0 ts = if 200 < n + 1 then some q else M.openAt (n + 1) (ts.drop (k + 1)) by have := HOD.out; rwa [HST.out] at this)
    by_cases h200 : 200 < n + 1
    ·have HZ := Lib.hid (show M.openAt 0 ts = some q by rw [HOM.out, if_pos h200])
     go_wp2_with fail
     go_ret2
     exact ⟨fun q2 h => by rw [HZ.out] at h; injection h with h; subst h; rfl, fun h => by rw [HZ.out] at h; (cases h), HBX.out _⟩
    ·have HOR := Lib.hid (show M.openAt 0 ts = M.openAt (n + 1) (ts.drop (k + 1)) by rw [HOM.out, if_neg (by omega)])
     go_wp2_with fail
     go_roundw
     case rel => exact ⟨k + 1, n + 1, by omega, by go_num, by go_num, by omega, HOR.out, HBX.out _⟩
     case measure => simp [intOf]; omega
   have q40 : (T.toList == [40]) = false := by have := M.str_ne e40; simpa [go_sem] using this
   by_cases e91 : T = ⟨#[91]⟩
   ·subst e91
    have HST := Lib.hid (show M.stepO n (M.bs ⟨#[91]⟩) = n + 1 by simp [M.stepO, M.bs])
    have HOM := Lib.hid (show M.openAt 0 ts = if 200 < n + 1 then some q else M.openAt (n + 1) (ts.drop (k + 1)) by have := HOD.out; rwa [HST.out] at this)
    by_cases h200 : 200 < n + 1
    ·have HZ := Lib.hid (show M.openAt 0 ts = some q by rw [HOM.out, if_pos h200])
     go_wp2_with fail
     go_ret2
     exact ⟨fun q2 h => by rw [HZ.out] at h; injection h with h; subst h; rfl, fun h => by rw [HZ.out] at h; (cases h), HBX.out _⟩
    ·have HOR := Lib.hid (show M.openAt 0 ts = M.openAt (n + 1) (ts.drop (k + 1)) by rw [HOM.out, if_neg (by omega)])
     go_wp2_with fail
     go_roundw
     case rel => exact ⟨k + 1, n + 1, by omega, by go_num, by go_num, by omega, HOR.out, HBX.out _⟩
     case measure => simp [intOf]; omega
   have q91 : (T.toList == [91]) = false := by have := M.str_ne e91; simpa [go_sem] using this
   by_cases e123 : T = ⟨#[123]⟩
   ·subst e123
    have HST := Lib.hid (show M.stepO n (M.bs ⟨#[123]⟩) = n + 1 by simp [M.stepO, M.bs])
    have HOM := Lib.hid (show M.openAt 0 ts = if 200 < n + 1 then some q else M.openAt (n + 1) (ts.drop (k + 1)) by have := HOD.out; rwa [HST.out] at this)
    by_cases h200 : 200 < n + 1
    ·have HZ := Lib.hid (show M.openAt 0 ts = some q by rw [HOM.out, if_pos h200])
     go_wp2_with fail
     go_ret2
     exact ⟨fun q2 h => by rw [HZ.out] at h; injection h with h; subst h; rfl, fun h => by rw [HZ.out] at h; (cases h), HBX.out _⟩
    ·have HOR := Lib.hid (show M.openAt 0 ts = M.openAt (n + 1) (ts.drop (k + 1)) by rw [HOM.out, if_neg (by omega)])
     go_wp2_with fail
     go_roundw
     case rel => exact ⟨k + 1, n + 1, by omega, by go_num, by go_num, by omega, HOR.out, HBX.out _⟩
     case measure => simp [intOf]; omega
   have q123 : (T.toList == [123]) = false := by have := M.str_ne e123; simpa [go_sem] using this
   by_cases e41 : T = ⟨#[41]⟩
   ·subst e41
    have HST := Lib.hid (show M.stepO n (M.bs ⟨#[41]⟩) = n - 1 by simp [M.stepO, M.bs])
    by_cases hn0 : n = 0
    ·subst hn0
     have HOM := Lib.hid (show M.openAt 0 ts = if 200 < 0 then some q else M.openAt (0) (ts.drop (k + 1)) by have := HOD.out; rwa [HST.out] at this)
     have HOR := Lib.hid (show M.openAt 0 ts = M.openAt (0) (ts.drop (k + 1)) by rw [HOM.out, if_neg (by omega)])
     go_wp2_with fail
     go_roundw
     case rel => exact ⟨k + 1, 0, by omega, by go_num, by go_num, by omega, HOR.out, HBX.out _⟩
     case measure => simp [intOf]; omega
    ·have hn1 : 0 < n := by omega
     obtain ⟨n', rfl⟩ : ∃ n', n = n' + 1 := ⟨n - 1, by omega⟩
     have HST := Lib.hid (show M.stepO (n' + 1) (M.bs ⟨#[41]⟩) = n' from HST.out)
     have HOM := Lib.hid (show M.openAt 0 ts = if 200 < n' then some q else M.openAt (n') (ts.drop (k + 1)) by have := HOD.out; rwa [HST.out] at this)
     have HOR := Lib.hid (show M.openAt 0 ts = M.openAt (n') (ts.drop (k + 1)) by rw [HOM.out, if_neg (by omega)])
     go_wp2_with fail
     go_roundw
     case rel => exact ⟨k + 1, n', by omega, by go_num, by go_num, by omega, HOR.out, HBX.out _⟩
     case measure => simp [intOf]; omega
   have q41 : (T.toList == [41]) = false := by have := M.str_ne e41; simpa [go_sem] using this
   by_cases e93 : T = ⟨#[93]⟩
   ·subst e93
    have HST := Lib.hid (show M.stepO n (M.bs ⟨#[93]⟩) = n - 1 by simp [M.stepO, M.bs])
    by_cases hn0 : n = 0
    ·subst hn0
     have HOM := Lib.hid (show M.openAt 0 ts = if 200 < 0 then some q else M.openAt (0) (ts.drop (k + 1)) by have := HOD.out; rwa [HST.out] at this)
     have HOR := Lib.hid (show M.openAt 0 ts = M.openAt (0) (ts.drop (k + 1)) by rw [HOM.out, if_neg (by omega)])
     go_wp2_with fail
     go_roundw
     case rel => exact ⟨k + 1, 0, by omega, by go_num, by go_num, by omega, HOR.out, HBX.out _⟩
     case measure => simp [intOf]; omega
    ·have hn1 : 0 < n := by omega
     obtain ⟨n', rfl⟩ : ∃ n', n = n' + 1 := ⟨n - 1, by omega⟩
     have HST := Lib.hid (show M.stepO (n' + 1) (M.bs ⟨#[93]⟩) = n' from HST.out)
     have HOM := Lib.hid (show M.openAt 0 ts = if 200 < n' then some q else M.openAt (n') (ts.drop (k + 1)) by have := HOD.out; rwa [HST.out] at this)
     have HOR := Lib.hid (show M.openAt 0 ts = M.openAt (n') (ts.drop (k + 1)) by rw [HOM.out, if_neg (by omega)])
     go_wp2_with fail
     go_roundw
     case rel => exact ⟨k + 1, n', by omega, by go_num, by go_num, by omega, HOR.out, HBX.out _⟩
     case measure => simp [intOf]; omega
   have q93 : (T.toList == [93]) = false := by have := M.str_ne e93; simpa [go_sem] using this
   by_cases e125 : T = ⟨#[125]⟩
   ·subst e125
    have HST := Lib.hid (show M.stepO n (M.bs ⟨#[125]⟩) = n - 1 by simp [M.stepO, M.bs])
    by_cases hn0 : n = 0
    ·subst hn0
     have HOM := Lib.hid (show M.openAt 0 ts = if 200 < 0 then some q else M.openAt (0) (ts.drop (k + 1)) by have := HOD.out; rwa [HST.out] at this)
     have HOR := Lib.hid (show M.openAt 0 ts = M.openAt (0) (ts.drop (k + 1)) by rw [HOM.out, if_neg (by omega)])
     go_wp2_with fail
     go_roundw
     case rel => exact ⟨k + 1, 0, by omega, by go_num, by go_num, by omega, HOR.out, HBX.out _⟩
     case measure => simp [intOf]; omega
    ·have hn1 : 0 < n := by omega
     obtain ⟨n', rfl⟩ : ∃ n', n = n' + 1 := ⟨n - 1, by omega⟩
     have HST := Lib.hid (show M.stepO (n' + 1) (M.bs ⟨#[125]⟩) = n' from HST.out)
     have HOM := Lib.hid (show M.openAt 0 ts = if 200 < n' then some q else M.openAt (n') (ts.drop (k + 1)) by have := HOD.out; rwa [HST.out] at this)
     have HOR := Lib.hid (show M.openAt 0 ts = M.openAt (n') (ts.drop (k + 1)) by rw [HOM.out, if_neg (by omega)])
     go_wp2_with fail
     go_roundw
     case rel => exact ⟨k + 1, n', by omega, by go_num, by go_num, by omega, HOR.out, HBX.out _⟩
     case measure => simp [intOf]; omega
   have q125 : (T.toList == [125]) = false := by have := M.str_ne e125; simpa [go_sem] using this
   have HST := Lib.hid (show M.stepO n (M.bs T) = n by
    have key : ∀ c : Nat, c < 256 -> T ≠ ⟨#[UInt8.ofNat c]⟩ -> M.bs T ≠ [c] := fun c hc hne e => hne (M.bs_inj (by rw [e]; simp [M.bs, Nat.mod_eq_of_lt hc]))
    unfold M.stepO
    rw [if_neg, if_neg]
    ·rintro (h | h | h)
     ·exact key 41 (by decide) e41 h
     ·exact key 93 (by decide) e93 h
     ·exact key 125 (by decide) e125 h
    ·rintro (h | h | h)
     ·exact key 40 (by decide) e40 h
     ·exact key 91 (by decide) e91 h
     ·exact key 123 (by decide) e123 h)
   clear e40 e91 e123 e41 e93 e125
   have HOM := Lib.hid (show M.openAt 0 ts = if 200 < n then some q else M.openAt (n) (ts.drop (k + 1)) by have := HOD.out; rwa [HST.out] at this)
   have HOR := Lib.hid (show M.openAt 0 ts = M.openAt (n) (ts.drop (k + 1)) by rw [HOM.out, if_neg (by omega)])
   go_wp2_with fail
   go_roundw
   case rel => exact ⟨k + 1, n, by omega, by go_num, by go_num, by omega, HOR.out, HBX.out _⟩
   case measure => simp [intOf]; omega
  ·obtain rfl : k = A.length := by omega
   have hz : M.openAt 0 ts = none := by
    rw [HO.out, HLN.out, List.drop_length]
    rfl
   have HZ := Lib.hid hz
   clear hz
   go_wp2_with fail
   go_ret2
   exact ⟨fun q h => by rw [HZ.out] at h; (cases h), fun _ => rfl, HB.out⟩
theorem checkSize_any (t : M.Tree) (v : Value) (w : World) (hv : NodeV w v t) (hc : M.count t <= 4611686018427387904) : Calls Tryz.prog 27 #[v] w fun e w' => e = .returned (.int .i64 (M.sizeE t)) /\ Below w.heap.size w w' := by
 have hud := hud9
 have hw : wrap64 ((M.count t : Nat) : Int) = (M.count t : Nat) := by unfold wrap64; omega
 have NO := Lib.hid fun w' (hb : Below w.heap.size w w') => (show Calls Tryz.prog 16 #[v] w' fun e w2 => e = .returned (.int .i64 (M.count t : Nat)) /\ Below w'.heap.size w' w2 by
  have := pnodes_ind (M.count t) t (Nat.le_refl _) v w' (hv.below hb)
  rwa [hw] at this)
 have DE := Lib.hid fun w' (hb : Below w.heap.size w w') => pdeep_ind (M.count t) t (Nat.le_refl _) hc v w' (hv.below hb)
 have ES := Lib.hid (show M.sizeE t = if 20000 < M.count t \/ 60 < M.deep t then 3 else 0 from rfl)
 obtain ⟨q, ec⟩ : ∃ c, c = M.count t := ⟨_, rfl⟩
 obtain ⟨d, ed⟩ : ∃ d, d = M.deep t := ⟨_, rfl⟩
 obtain ⟨r, er⟩ : ∃ r, r = M.sizeE t := ⟨_, rfl⟩
 rw [<- ec, <- ed, <- er] at ES
 rw [<- ec] at NO
 rw [<- ed] at DE
 rw [<- er]
 obtain ⟨T, kv, rfl, hT0, hok0, A, c, rfl, hrest⟩ := hv
 obtain ⟨K, eK⟩ : ∃ K, K = t.kind := ⟨_, rfl⟩
 obtain ⟨n, en⟩ : ∃ n, n = t.num := ⟨_, rfl⟩
 obtain ⟨m, em⟩ : ∃ m, m = t.kids.length := ⟨_, rfl⟩
 rw [<- eK, <- en, <- em] at NO DE ⊢
 clear hw hT0 hok0 hrest ec ed er eK en em hc
 by_cases h1 : 20000 < q
 ·obtain rfl : r = 3 := by rw [ES.out, if_pos (.inl h1)]
  go_enter Tryz.func27, Tryz.ntmps27
  go_wp2_with fail
  (with_reducible refine (NO.out _ (balloc8 w _)).mono ?_)
  rintro e w1 ⟨rfl, hb⟩
  have HB := Lib.hid ((balloc8 w (.cells #[.int .i64 K, .string T, .int .u64 (n : Nat), .slice A m c] 25)).trans (hb.mono (by simp)))
  have BX := Lib.hid ((Box9.start w ⟨K, T, n, A, m, c⟩).below hb)
  clear hb
  obtain ⟨k0, k1, k2, k3⟩ := BX.out.c
  go_wp2_with fail
  go_ret
  exact ⟨rfl, HB.out⟩
 by_cases h2 : 60 < d
 ·obtain rfl : r = 3 := by rw [ES.out, if_pos (.inr h2)]
  go_enter Tryz.func27, Tryz.ntmps27
  go_wp2_with fail
  (with_reducible refine (NO.out _ (balloc8 w _)).mono ?_)
  rintro e w1 ⟨rfl, hb⟩
  have HB := Lib.hid ((balloc8 w (.cells #[.int .i64 K, .string T, .int .u64 (n : Nat), .slice A m c] 25)).trans (hb.mono (by simp)))
  have BX := Lib.hid ((Box9.start w ⟨K, T, n, A, m, c⟩).below hb)
  clear hb
  obtain ⟨k0, k1, k2, k3⟩ := BX.out.c
  have DE1 := Lib.hid (DE.out w1 HB.out)
  go_wp2_with fail
  (with_reducible refine (DE1.out).mono ?_)
  rintro e w2 ⟨rfl, hb⟩
  have HB2 := Lib.hid (HB.out.trans (hb.mono HB.out.size))
  clear hb
  go_wp2_with fail
  go_ret
  exact ⟨rfl, HB2.out⟩
 ·obtain rfl : r = 0 := by rw [ES.out, if_neg (by omega)]
  go_enter Tryz.func27, Tryz.ntmps27
  go_wp2_with fail
  (with_reducible refine (NO.out _ (balloc8 w _)).mono ?_)
  rintro e w1 ⟨rfl, hb⟩
  have HB := Lib.hid ((balloc8 w (.cells #[.int .i64 K, .string T, .int .u64 (n : Nat), .slice A m c] 25)).trans (hb.mono (by simp)))
  have BX := Lib.hid ((Box9.start w ⟨K, T, n, A, m, c⟩).below hb)
  clear hb
  obtain ⟨k0, k1, k2, k3⟩ := BX.out.c
  have DE1 := Lib.hid (DE.out w1 HB.out)
  go_wp2_with fail
  (with_reducible refine (DE1.out).mono ?_)
  rintro e w2 ⟨rfl, hb⟩
  have HB2 := Lib.hid (HB.out.trans (hb.mono HB.out.size))
  clear hb
  go_wp2_with fail
  go_ret
  exact ⟨rfl, HB2.out⟩
namespace M
def parseR (N : Nat) (ts : List Tok) : Tree × Nat × Int :=
 match openAt 0 ts with
 | some q => (Tree.no, q, 3)
 | none => match pProgram (fuel ts.length) ts with
  | .ok t _ => if sizeE t = 0 then (t, 0, 0) else (Tree.no, 0, sizeE t)
  | .bad r => (Tree.no, placeOf N r, 4)
  | .out => (Tree.no, 0, 0)
theorem Reads.zero {N : Nat} {l : List Nat} {ts : List Tok} {p : Nat} {e : Int} (h : Reads N l ts p e) : e = 0 -> p = 0 := by
 induction h with
 | done => intro _; rfl
 | bad _ h => intro e; exact absurd e h
 | step _ _ _ ih => exact ih
end M
def ParseIs (L : List Nat) (t : M.Tree) (at_ : Nat) (E : Int) : Prop :=
 ∃ ts p e, ReadsT L ts p e /\ (t, at_, E) = if e = 0 then M.parseR L.length ts else (M.Tree.no, p, e)
theorem ParseIs.one {L : List Nat} {t t' : M.Tree} {a a' : Nat} {E E' : Int} (h : ParseIs L t a E) (h' : ParseIs L t' a' E') : t = t' /\ a = a' /\ E = E' := by
 obtain ⟨ts, p, e, h1, h2⟩ := h
 obtain ⟨ts', p', e', h1', h2'⟩ := h'
 obtain ⟨rfl, rfl, rfl⟩ := h1.one h1'
 have := h2.trans h2'.symm
 simpa using this
def ParseEnd (s : ByteArray) (w : World) (e : Ending) (w' : World) : Prop :=
 ∃ (nv : Value) (at_ : Nat) (E : Int) (t : M.Tree), e = .returned (.tuple #[nv, .int .i64 (at_ : Nat), .int .i64 E]) /\ NodeV w' nv t /\ Below w.heap.size w w' /\ ParseIs (M.bs s) t at_ E
theorem nodeV_no (w : World) : NodeV w (.agg #[.int .i64 0, .string ⟨#[]⟩, .int .u64 0, .slice none 0 0]) M.Tree.no := ⟨⟨#[]⟩, _, rfl, rfl, ⟨by decide, by decide, by decide⟩, KidsV.nil _⟩
theorem parse_no {s : ByteArray} {w w2 : World} {q : Nat} {E : Int} (hr : Box9 w2 w.heap.size V9.no) (hb : Below w.heap.size w w2) (h : ParseIs (M.bs s) M.Tree.no q E) : ParseEnd s w (.returned (.tuple #[.agg #[.int .i64 0, .string ⟨#[]⟩, .int .u64 0, .slice none 0 0], .int .i64 (q : Nat), .int .i64 E])) (put9 w2 w.heap.size 0 ⟨#[]⟩ (0 : Nat) (.slice none 0 0)) := by
 have ht := put9_touch w2 w.heap.size 0 ⟨#[]⟩ (0 : Nat) (.slice none 0 0)
 exact ⟨_, q, E, _, rfl, nodeV_no _, hb.trans ⟨ht.os, ht.tape, ht.output, by rw [ht.size]; exact Nat.le_refl _, fun k hk => ht.block k (by omega)⟩, h⟩
theorem parse_no_os (os : List Obj) {s : ByteArray} {w w2 : World} {q : Nat} {E : Int} (hr : Box9 w2 w.heap.size V9.no) (hb : Below w.heap.size w w2) (h : ParseIs (M.bs s) M.Tree.no q E) : ParseEnd s w (.returned (.tuple #[.agg #[.int .i64 0, .string ⟨#[]⟩, .int .u64 0, .slice none 0 0], .int .i64 (q : Nat), .int .i64 E])) (allocs (put9 w2 w.heap.size 0 ⟨#[]⟩ (0 : Nat) (.slice none 0 0)) os) := by
 have ht := put9_touch w2 w.heap.size 0 ⟨#[]⟩ (0 : Nat) (.slice none 0 0)
 obtain ⟨h4, _⟩ := allocs_below os (put9 w2 w.heap.size 0 ⟨#[]⟩ (0 : Nat) (.slice none 0 0))
 have h5 : Below w.heap.size w (put9 w2 w.heap.size 0 ⟨#[]⟩ (0 : Nat) (.slice none 0 0)) := hb.trans ⟨ht.os, ht.tape, ht.output, by rw [ht.size]; exact Nat.le_refl _, fun k hk => ht.block k (by omega)⟩
 exact ⟨_, q, E, _, rfl, nodeV_no _, h5.trans (h4.mono h5.size), h⟩
theorem parse_yes {s : ByteArray} {w w2 : World} {y : V9} {t : M.Tree} (hr : Box9 w2 w.heap.size V9.no) (hb : Below w.heap.size w w2) (hn : ∀ w', (∀ k, k ≠ w.heap.size -> w'.heap[k]? = w2.heap[k]?) -> w2.heap.size <= w'.heap.size -> NodeV w' y.val t) (h : ParseIs (M.bs s) t 0 0) : ParseEnd s w (.returned (.tuple #[.agg #[.int .i64 y.kind, .string y.text, .int .u64 (y.num : Nat), .slice y.ka y.kn y.kc], .int .i64 0, .int .i64 0])) (put9 w2 w.heap.size y.kind y.text (y.num : Nat) (.slice y.ka y.kn y.kc)) := by
 have ht := put9_touch w2 w.heap.size y.kind y.text (y.num : Nat) (.slice y.ka y.kn y.kc)
 exact ⟨_, 0, 0, _, rfl, hn _ (fun k hk => ht.block k hk) (by rw [ht.size]; exact Nat.le_refl _), hb.trans ⟨ht.os, ht.tape, ht.output, by rw [ht.size]; exact Nat.le_refl _, fun k hk => ht.block k (by omega)⟩, h⟩
theorem parse_any (s : ByteArray) (w : World) (hs : s.size <= 140737488351232) : Calls Tryz.prog 10 #[.string s] w (ParseEnd s w) := by
 have hud := hud9
 have RD := Lib.hid fun w => read9_any s w hs
 have BSL := Lib.hid (M.bs_len s)
 go_enter Tryz.func10, Tryz.ntmps10
 go_wp2_with fail
 obtain ⟨w0, ew0⟩ : ∃ w0, w0 = w.alloc (.cells #[.int .i64 0, .string ⟨#[]⟩, .int .u64 0, .slice none 0 0] 25) := ⟨_, rfl⟩
 rw [<- ew0]
 have RES0 := Lib.hid (show Box9 w0 w.heap.size V9.no by rw [ew0]; exact Box9.start w V9.no)
 have SZ0 := Lib.hid (show w0.heap.size = w.heap.size + 1 by rw [ew0]; simp)
 have B0 := Lib.hid (show Below w.heap.size w w0 by rw [ew0]; exact balloc8 w _)
 clear ew0
 (with_reducible refine (RD.out w0).mono ?_)
 rintro e w1 ⟨⟨A, ts, v, p, E, rfl, hA, hR, hV, hN, hb⟩, h9⟩
 have RES1 := Lib.hid (RES0.out.below hb)
 have B1 := Lib.hid (B0.out.trans (hb.mono (by have := SZ0.out; omega)))
 have HRT := Lib.hid hR
 by_cases hE : E = 0
 ·subst hE
  have hp : p = 0 := by
   rcases hR with ⟨_, _, _, h⟩ | ⟨_, h⟩
   ·cases h
   ·exact h.zero rfl
  subst hp
  obtain ⟨A2, ts2, hown, hV2, hR2, hsz, hAl⟩ := h9 v rfl
  obtain ⟨rfl, -, -⟩ := hR.one (.inr ⟨by rw [BSL.out]; exact hsz, by rw [BSL.out]; exact hR2⟩)
  have HTK := Lib.hid hR2.toks
  have HTL := Lib.hid (show ts.length <= 20000 by have := hV2.len; omega)
  have TK1 := Lib.hid (toks_of_own (by omega) hown)
  have TM := Lib.hid (tooMany_any v A2 ts w1 TK1.out hV2)
  have S1 := Lib.hid hb.size
  have TR := Lib.hid fun w2 (hb2 : Below w1.heap.size w1 w2) => tree_any v A2 ts s.size w0.heap.size w2 (own_below hown hb2) (Nat.le_trans hb.size hb2.size) hV2 HTK.out hsz HTL.out
  obtain ⟨A3, n3, c3, rfl⟩ : ∃ (A3 : Option Addr) (n3 c3 : Nat), v = .slice A3 n3 c3 := by
   obtain ⟨_, a, cap, rfl, _⟩ := TK1.out
   exact ⟨_, _, _, rfl⟩
  have HSZ := Lib.hid hsz
  clear hb hR hA hV hN h9 hown hV2 hR2 hsz hAl
  go_wp2_with fail
  (with_reducible refine (TM.out).mono ?_)
  rintro e w2 ⟨h1, h2, hb⟩
  have RES2 := Lib.hid (RES1.out.below hb)
  have B2 := Lib.hid (B1.out.trans (hb.mono B1.out.size))
  have TR2 := Lib.hid (TR.out w2 hb)
  have S2 := Lib.hid (Nat.le_trans S1.out hb.size)
  cases ho : M.openAt 0 ts with
  | some q =>
   obtain rfl := h1 q ho
   have HO := Lib.hid ho
   clear h1 h2 hb ho
   obtain ⟨q0, q1, q2, q3⟩ := RES2.out.c
   obtain ⟨z0, z1, z2, z3⟩ := RES2.out.fz
   go_wp2_with fail
   refine bodyPost_ret (v := .tuple #[.agg #[.int .i64 0, .string ⟨#[]⟩, .int .u64 0, .slice none 0 0], .int .i64 (q : Nat), .int .i64 3]) (by simp [results, Tryz.results10, go_sem, q0, q1, q2, q3]) rfl ?_
   exact parse_no RES2.out B2.out ⟨ts, 0, 0, HRT.out, by rw [if_pos rfl]; unfold M.parseR; rw [HO.out]⟩
  | none =>
   obtain rfl := h2 ho
   have HO := Lib.hid ho
   clear h1 h2 hb ho
   go_wp2_with fail
   (with_reducible refine (TR2.out).mono ?_)
   rintro e w3 ⟨nv, a1, E1, t1, rfl, hn, hb3, hti⟩
   have hle3 := hb3.size
   have RES3 := Lib.hid (RES2.out.keep (hb3.block _ (by have := SZ0.out; omega)))
   have B3 := Lib.hid (B2.out.trans (hb3.mono (by have := SZ0.out; omega)))
   have S3 := Lib.hid (Nat.le_trans S2.out hle3)
   have HTI := Lib.hid hti
   have HN3 := Lib.hid hn
   have LR := Lib.hid (show w.heap.size < w2.heap.size by have := SZ0.out; have := S2.out; omega)
   obtain ⟨x, rfl⟩ : ∃ x : V9, nv = .agg #[.int .i64 x.kind, .string x.text, .int .u64 (x.num : Nat), .slice x.ka x.kn x.kc] := by
    exact hn.v9e
   clear hti hn hb3 hle3 TR TR2 TM RES2 B2 S2
   by_cases hE1 : E1 = 0
   ·subst hE1
    have ha1 : a1 = 0 := by
     have h := HTI.out
     unfold TreeIs at h
     split at h
     ·exact h.2.1
     ·exact absurd h.2.2 (by decide)
     ·exact h.elim
    subst ha1
    have hPP : ∃ r, M.pProgram (M.fuel ts.length) ts = .ok t1 r := by
     have h := HTI.out
     unfold TreeIs at h
     split at h
     ·rename_i u r e
      exact ⟨r, by rw [e, h.1]⟩
     ·exact absurd h.2.2 (by decide)
     ·exact h.elim
    obtain ⟨rr, hPP⟩ := hPP
    have HPP := Lib.hid hPP
    have hct : M.count t1 <= 4611686018427387904 := by
     have h := M.program_cn (M.fuel ts.length) ts
     rw [hPP] at h
     have h : M.count t1 + 3 * rr.length <= 3 * ts.length + 1 := h
     have := HTL.out
     omega
    have CS := Lib.hid fun w' (hb : Below w3.heap.size w3 w') => checkSize_any t1 _ w' (HN3.out.now.below hb) hct
    have BX := Lib.hid (balloc8 w3 (.cells #[.int .i64 x.kind, .string x.text, .int .u64 (x.num : Nat), .slice x.ka x.kn x.kc] 25))
    have BX9 := Lib.hid (Box9.start w3 x)
    clear hPP hct
    go_wp2_with fail
    (with_reducible refine (CS.out _ BX.out).mono ?_)
    rintro e w4 ⟨rfl, hb4⟩
    have BX4 := Lib.hid (BX.out.trans (hb4.mono (by simp)))
    have NX4 := Lib.hid (BX9.out.below hb4)
    have RES4 := Lib.hid (RES3.out.below BX4.out)
    have B4 := Lib.hid (B3.out.trans (BX4.out.mono B3.out.size))
    clear hb4 BX BX9
    by_cases hz : M.sizeE t1 = 0
    ·have HZ := Lib.hid hz
     rw [hz]
     clear hz
     obtain ⟨q0, q1, q2, q3⟩ := RES4.out.c
     obtain ⟨z0, z1, z2, z3⟩ := RES4.out.fz
     obtain ⟨k0, k1, k2, k3⟩ := NX4.out.c
     go_wp2_with fail
     refine bodyPost_ret (v := .tuple #[.agg #[.int .i64 x.kind, .string x.text, .int .u64 (x.num : Nat), .slice x.ka x.kn x.kc], .int .i64 0, .int .i64 0]) (by simp [results, Tryz.results10, go_sem, q0, q1, q2, q3]) rfl ?_
     exact parse_yes RES4.out B4.out (fun w' h1 h2 => HN3.out w' ⟨Nat.le_trans BX4.out.size h2, fun k hk hk3 _ => (h1 k (by have := LR.out; omega)).trans (BX4.out.block k hk3)⟩) ⟨ts, 0, 0, HRT.out, by rw [if_pos rfl]; unfold M.parseR; rw [HO.out]; dsimp only; rw [HPP.out]; dsimp only; rw [if_pos HZ.out]⟩
    ·have HZ := Lib.hid hz
     have hzb : (M.sizeE t1 != 0) = true := by rw [bne_iff_ne]; exact hz
     obtain ⟨sz, esz⟩ : ∃ sz, sz = M.sizeE t1 := ⟨_, rfl⟩
     have ESZ := Lib.hid esz
     rw [<- esz] at hzb ⊢
     clear hz esz
     obtain ⟨q0, q1, q2, q3⟩ := RES4.out.c
     obtain ⟨z0, z1, z2, z3⟩ := RES4.out.fz
     go_wp2_with fail
     refine bodyPost_ret (v := .tuple #[.agg #[.int .i64 0, .string ⟨#[]⟩, .int .u64 0, .slice none 0 0], .int .i64 0, .int .i64 sz]) (by simp [results, Tryz.results10, go_sem, q0, q1, q2, q3]) rfl ?_
     exact parse_no (q := 0) RES4.out B4.out ⟨ts, 0, 0, HRT.out, by rw [if_pos rfl]; unfold M.parseR; rw [HO.out]; dsimp only; rw [HPP.out]; dsimp only; rw [if_neg HZ.out, ESZ.out]⟩
   ·have hEb : (E1 != 0) = true := by rw [bne_iff_ne]; exact hE1
    have HE1 := Lib.hid hE1
    clear hE1
    have BX := Lib.hid (balloc8 w3 (.cells #[.int .i64 x.kind, .string x.text, .int .u64 (x.num : Nat), .slice x.ka x.kn x.kc] 25))
    have RES4 := Lib.hid (RES3.out.below BX.out)
    have B4 := Lib.hid (B3.out.trans (BX.out.mono B3.out.size))
    have hno : t1 = M.Tree.no /\ ∃ r, M.pProgram (M.fuel ts.length) ts = .bad r /\ a1 = M.placeOf s.size r /\ E1 = 4 := by
     have h := HTI.out
     unfold TreeIs at h
     split at h
     ·exact absurd h.2.2 HE1.out
     ·rename_i r e
      exact ⟨h.1, r, e, h.2.1, h.2.2⟩
     ·exact h.elim
    obtain ⟨-, rr, hpr, ha1, hE4⟩ := hno
    have HPR := Lib.hid (show M.pProgram (M.fuel ts.length) ts = .bad rr /\ a1 = M.placeOf s.size rr /\ E1 = 4 from ⟨hpr, ha1, hE4⟩)
    clear hpr ha1 hE4
    obtain ⟨q0, q1, q2, q3⟩ := RES3.out.c
    obtain ⟨z0, z1, z2, z3⟩ := RES3.out.fz
    have lr0 := RES3.out.lt
    go_wp2_with fail
    refine bodyPost_ret (v := .tuple #[.agg #[.int .i64 0, .string ⟨#[]⟩, .int .u64 0, .slice none 0 0], .int .i64 (a1 : Nat), .int .i64 E1]) (by simp [results, Tryz.results10, go_sem, q0, q1, q2, q3, lr0]) rfl ?_
    exact parse_no_os [_] RES3.out B3.out ⟨ts, 0, 0, HRT.out, by rw [if_pos rfl]; unfold M.parseR; rw [HO.out]; dsimp only; rw [HPR.out.1]; dsimp only; rw [HPR.out.2.1, HPR.out.2.2, BSL.out]⟩
 ·have hEb : (E != 0) = true := by rw [bne_iff_ne]; exact hE
  have HE := Lib.hid hE
  have hvn : ∃ (A3 : Option Addr) (n3 c3 : Nat), v = .slice A3 n3 c3 := by
   obtain ⟨_, a, cap, rfl, _⟩ := hA
   exact ⟨_, _, _, rfl⟩
  obtain ⟨A3, n3, c3, rfl⟩ := hvn
  clear hE hb hR hA hV hN h9
  obtain ⟨q0, q1, q2, q3⟩ := RES1.out.c
  obtain ⟨z0, z1, z2, z3⟩ := RES1.out.fz
  go_wp2_with fail
  refine bodyPost_ret (v := .tuple #[.agg #[.int .i64 0, .string ⟨#[]⟩, .int .u64 0, .slice none 0 0], .int .i64 (p : Nat), .int .i64 E]) (by simp [results, Tryz.results10, go_sem, q0, q1, q2, q3]) rfl ?_
  exact parse_no RES1.out B1.out ⟨ts, p, E, HRT.out, by rw [if_neg HE.out]⟩
end Go.Proofs.YtngpedcihajepaaGreatDoor
