/-
 Merged out of the texts Ra9 Rb9 Rc9 Rd9 Re9 Rf9 Rg9 Rh9 Ri9.
-/
import Derived.Deep.LoopGhost
import Derived.WalkKit
import Derived.ProofKit
import Derived.ChangeMaps5
import Derived.Deep.RegionHeld3
import Derived.Test.YtngpedcihajepaaGreatDoorProg
import Derived.Lib.MinMax
import Derived.WalkSpells
import Derived.WalkLawsBesides
import Derived.Lib.Hide
import Derived.Below
import Derived.Deep.QuietTactic
import Derived.BigQuiet
import Derived.Maps.Own
import Derived.Maps.OwnOps
import Derived.Maps.Views
import Derived.Deep.AppendLies
import Derived.OwnWalk
import Derived.Test.YtngpedcihajepaaGreatDoorShelf
import Derived.Test.YtngpedcihajepaaGreatDoorBz1
import Derived.Test.YtngpedcihajepaaGreatDoorBz2
import Derived.Test.YtngpedcihajepaaGreatDoorBz3
import Derived.Test.YtngpedcihajepaaGreatDoorBz4
import Derived.Test.YtngpedcihajepaaGreatDoorBz5
import Derived.Test.YtngpedcihajepaaGreatDoorBz6
import Derived.Test.YtngpedcihajepaaGreatDoorBz7
import Derived.Test.YtngpedcihajepaaGreatDoorBz8
import Derived.Test.YtngpedcihajepaaGreatDoorBz11
import Derived.Test.YtngpedcihajepaaGreatDoorSq9
set_option linter.unusedVariables false
set_option linter.unusedSimpArgs false
set_option maxRecDepth 100000
set_option maxHeartbeats 40000000
namespace Go.Proofs.YtngpedcihajepaaGreatDoor
open Go.RowKit
def FnP (G : Nat) (p : M.Tree -> Bool) (t : M.Tree) : Prop := ∀ (v : Value) (w : World), NodeV w v t -> Calls Tryz.prog G #[v] w fun e w' => e = .returned (.bool (p t)) /\ Below w.heap.size w w'
def Ent (G : Nat) : Prop := ∀ args w, (callFunc G args).run Tryz.prog w = .ok (.enter G args) w
theorem all1_any {G : Nat} {p : M.Tree -> Bool} {t : M.Tree} (hp : FnP G p t) (hG : Ent G) (hb : Nat) (v : Value) (w : World) (hv : NodeV w v t) (hc : w.cell? ⟨hb, 0, none⟩ = some (.func (.func G) #[] #[])) (hlt : hb < w.heap.size) : Calls Tryz.prog 77 #[v, .pointer (some ⟨hb, 0, none⟩)] w fun e w' => e = .returned (.bool (!p t)) /\ Below w.heap.size w w' := by
 have hud := hud9
 have hnot : ∀ (x : Bool) (w : World), (Op.unary .not (.bool x)).run Tryz.prog w = .ok (.bool (!x)) w := fun _ _ => rfl
 have HP := Lib.hid fun w' (hb : Below w.heap.size w w') => hp v w' (hv.below hb)
 obtain ⟨T, kv, rfl, -, -, A, c, rfl, -⟩ := hv
 unfold Ent at hG
 go_enter Tryz.func77, Tryz.ntmps77
 go_wp2_with fail
 (with_reducible refine (HP.out _ (balloc8 w _)).mono ?_)
 rintro e w1 ⟨rfl, hb1⟩
 have HB := Lib.hid ((balloc8 w (.cells #[.int .i64 t.kind, .string T, .int .u64 (t.num : Nat), .slice A t.kids.length c] 25)).trans (hb1.mono (by simp)))
 clear hb1
 go_wp2_with fail
 go_ret
 exact ⟨rfl, HB.out⟩
theorem all_drop {p : M.Tree -> Bool} {l : List M.Tree} {k : Nat} (hk : k < l.length) : (l.drop k).all p = (p (l.getD k M.Tree.no) && (l.drop (k + 1)).all p) := by
 rw [List.drop_eq_getElem_cons hk, List.all_cons, List.getD_eq_getElem?_getD, List.getElem?_eq_getElem hk]
 rfl
theorem index_any {G : Nat} {p : M.Tree -> Bool} {l : List M.Tree} (hp : ∀ i, i < l.length -> FnP G p (l.getD i M.Tree.no)) (hG : Ent G) (hb : Nat) (v : Value) (w : World) (hv : KidsV w v l) (hc : w.cell? ⟨hb, 0, none⟩ = some (.func (.func G) #[] #[])) (hlt : hb < w.heap.size) : Calls Tryz.prog 120 #[v, .func (.func 77) #[] #[.pointer (some ⟨hb, 0, none⟩)]] w fun e w' => (∃ q : Int, e = .returned (.int .i64 q) /\ decide (0 <= q) = !l.all p) /\ Below w.heap.size w w' := by
 have hud := hud9
 have hE := Tryz.call77
 have HP := Lib.hid fun i hi v w' hv hc hlt => all1_any (hp i hi) hG hb v w' hv hc hlt
 have HB0 := Lib.hid (Below.refl w.heap.size w)
 have HC := Lib.hid hc
 have HLT := Lib.hid hlt
 obtain ⟨A, cap, rfl, _⟩ := id hv
 obtain ⟨-, h1, h2, h3⟩ := hv.kid
 have HK := Lib.hid h3
 clear hp hG hv hc hlt h3
 go_enter Tryz.func120, Tryz.ntmps120
 go_wp2_with fail
 go_loopg [8] l.length (fun g ti wr => ∃ k : Nat, k + g = l.length /\ ti = .int .i64 k /\ l.all p = (l.drop k).all p /\ Below w.heap.size w wr)
 case atStart => exact ⟨0, by omega, rfl, rfl, HB0.out⟩
 case round =>
  obtain ⟨k, hk, rfl, hal, hB⟩ := hrel
  have HB := Lib.hid hB
  have HAL := Lib.hid hal
  clear hB hal
  cases gk with
  | zero =>
   have hlt : ¬ ((k : Int) < (l.length : Int)) := by omega
   have HZ := Lib.hid (show l.all p = true by rw [HAL.out, List.drop_eq_nil_of_le (by omega)]; rfl)
   go_wp2_with fail
   go_ret
   exact ⟨⟨-1, rfl, by rw [HZ.out]; rfl⟩, HB.out⟩
  | succ g =>
   have hlt0 : k < l.length := by omega
   have hlt : (k : Int) < (l.length : Int) := by omega
   obtain ⟨b, off, rfl, hbl, hcell⟩ := HK.out (by omega)
   obtain ⟨T2, A2, n3, c3, x0, x1, x2, x3, hn⟩ := hcell k hlt0
   have p0 := (HB.out.cell (p := ⟨b, off + k * 4, none⟩) hbl).trans x0
   have p1 := (HB.out.cell (p := ⟨b, off + k * 4 + 1, none⟩) hbl).trans x1
   have p2 := (HB.out.cell (p := ⟨b, off + k * 4 + 2, none⟩) hbl).trans x2
   have p3 := (HB.out.cell (p := ⟨b, off + k * 4 + 3, none⟩) hbl).trans x3
   have CK := Lib.hid (HP.out k hlt0 _ wr (hn.below HB.out) ((HB.out.cell (p := ⟨hb, 0, none⟩) HLT.out).trans HC.out) (Nat.lt_of_lt_of_le HLT.out HB.out.size))
   have HD := Lib.hid (all_drop (p := p) hlt0)
   obtain ⟨u, eu⟩ : ∃ u, u = l.getD k M.Tree.no := ⟨_, rfl⟩
   rw [<- eu] at p0 p2 CK HD
   obtain ⟨K2, eK2⟩ : ∃ K, K = u.kind := ⟨_, rfl⟩
   obtain ⟨n2, en2⟩ : ∃ n, n = u.num := ⟨_, rfl⟩
   rw [<- eK2] at p0 CK
   rw [<- en2] at p2 CK
   clear hcell x0 x1 x2 x3 eu eK2 en2 hn
   obtain ⟨r, er⟩ : ∃ r, r = p u := ⟨_, rfl⟩
   rw [<- er] at CK HD
   clear er
   cases r with
   | true =>
    go_wp2_with fail
    (with_reducible refine (CK.out).mono ?_)
    rintro e w2 ⟨rfl, hb2⟩
    have HB2 := Lib.hid (HB.out.trans (hb2.mono HB.out.size))
    clear hb2
    go_wp2_with fail
    go_roundg g
    case measure => omega
    case rel => exact ⟨k + 1, by omega, by go_num, by rw [HAL.out, HD.out, Bool.true_and], HB2.out⟩
   | false =>
    go_wp2_with fail
    (with_reducible refine (CK.out).mono ?_)
    rintro e w2 ⟨rfl, hb2⟩
    have HB2 := Lib.hid (HB.out.trans (hb2.mono HB.out.size))
    clear hb2
    go_wp2_with fail
    go_ret
    exact ⟨⟨(k : Int), rfl, by rw [HAL.out, HD.out, Bool.false_and]; simp⟩, HB2.out⟩
theorem containsF_any {G : Nat} {p : M.Tree -> Bool} {l : List M.Tree} (hp : ∀ i, i < l.length -> FnP G p (l.getD i M.Tree.no)) (hG : Ent G) (hb : Nat) (v : Value) (w : World) (hv : KidsV w v l) (hc : w.cell? ⟨hb, 0, none⟩ = some (.func (.func G) #[] #[])) (hlt : hb < w.heap.size) : Calls Tryz.prog 76 #[v, .func (.func 77) #[] #[.pointer (some ⟨hb, 0, none⟩)]] w fun e w' => e = .returned (.bool (!l.all p)) /\ Below w.heap.size w w' := by
 have hud := hud9
 have IX := Lib.hid (index_any hp hG hb v w hv hc hlt)
 obtain ⟨A, cap, rfl, _⟩ := id hv
 clear hv
 go_enter Tryz.func76, Tryz.ntmps76
 go_wp2_with fail
 (with_reducible refine (IX.out).mono ?_)
 rintro e w2 ⟨⟨q, rfl, hq⟩, hb2⟩
 have HB2 := Lib.hid hb2
 have HQ := Lib.hid hq
 clear hq hb2
 go_wp2_with fail
 go_ret
 exact ⟨by rw [<- HQ.out]; rfl, HB2.out⟩
theorem all_any {G : Nat} {p : M.Tree -> Bool} {l : List M.Tree} (hp : ∀ i, i < l.length -> FnP G p (l.getD i M.Tree.no)) (hG : Ent G) (v : Value) (w : World) (hv : KidsV w v l) : Calls Tryz.prog 44 #[v, .func (.func G) #[] #[]] w fun e w' => e = .returned (.bool (l.all p)) /\ Below w.heap.size w w' := by
 have hud := hud9
 have hmf : ∀ (fn : Fn) (first cap : Array Value) (w : World), (Instr.makeFunc fn first cap).run Tryz.prog w = .ok (.func fn first cap) w := fun _ _ _ _ => rfl
 have CO := Lib.hid fun hb w' (h : Below w.heap.size w w') hc hlt => containsF_any hp hG hb v w' (hv.below h) hc hlt
 obtain ⟨A, cap, rfl, _⟩ := id hv
 clear hv hp hG
 go_enter Tryz.func44, Tryz.ntmps44
 go_wp2_with fail
 (with_reducible refine (CO.out w.heap.size _ (balloc8 w _) (by simp) (by simp)).mono ?_)
 rintro e w2 ⟨rfl, hb2⟩
 have HB2 := Lib.hid ((balloc8 w (.cells #[.func (.func G) #[] #[]] 34)).trans (hb2.mono (by simp)))
 clear hb2
 go_wp2_with fail
 go_ret
 exact ⟨by simp, HB2.out⟩
theorem M.match_len : ∀ (ps : List (M.Tree -> Bool)) (l : List M.Tree), ps.length ≠ l.length -> M.matchB ps l = false
 | [], [], h => absurd rfl h
 | [], t :: l, _ => rfl
 | p :: ps, [], _ => rfl
 | p :: ps, t :: l, h => by rw [M.matchB, M.match_len ps l (by simpa using h), Bool.and_false]
theorem M.match_drop {ps : List (M.Tree -> Bool)} {l : List M.Tree} {k : Nat} (h1 : k < ps.length) (h2 : k < l.length) : M.matchB (ps.drop k) (l.drop k) = ((ps.getD k fun _ => false) (l.getD k M.Tree.no) && M.matchB (ps.drop (k + 1)) (l.drop (k + 1))) := by
 rw [List.drop_eq_getElem_cons h1, List.drop_eq_getElem_cons h2, M.matchB, List.getD_eq_getElem?_getD, List.getElem?_eq_getElem h1, List.getD_eq_getElem?_getD, List.getElem?_eq_getElem h2]
 rfl
theorem match1_any {G : Nat} {p : M.Tree -> Bool} {t : M.Tree} (hp : FnP G p t) (hG : Ent G) (v : Value) (w : World) (hv : NodeV w v t) : Calls Tryz.prog 124 #[v, .func (.func G) #[] #[]] w fun e w' => e = .returned (.bool (p t)) /\ Below w.heap.size w w' := by
 have hud := hud9
 have HP := Lib.hid fun w' (hb : Below w.heap.size w w') => hp v w' (hv.below hb)
 obtain ⟨T, kv, rfl, -, -, A, c, rfl, -⟩ := hv
 unfold Ent at hG
 go_enter Tryz.func124, Tryz.ntmps124
 go_wp2_with fail
 (with_reducible refine (HP.out _ (balloc8 w _)).mono ?_)
 rintro e w1 ⟨rfl, hb1⟩
 have HB := Lib.hid ((balloc8 w (.cells #[.int .i64 t.kind, .string T, .int .u64 (t.num : Nat), .slice A t.kids.length c] 25)).trans (hb1.mono (by simp)))
 clear hb1
 go_wp2_with fail
 go_ret
 exact ⟨rfl, HB.out⟩
def FB (w : World) (b : Nat) (Gs : List Nat) : Prop := w.heap[b]? = some (.cells (Gs.map fun G => Value.func (.func G) #[] #[]).toArray 34 (0, 0))
theorem FB.lt {w : World} {b : Nat} {Gs : List Nat} (h : FB w b Gs) : b < w.heap.size := (Array.getElem?_eq_some_iff.1 h).1
theorem FB.below {w w' : World} {b : Nat} {Gs : List Nat} (h : FB w b Gs) (hb : Below w.heap.size w w') : FB w' b Gs := (hb.block b h.lt).trans h
theorem FB.c {w : World} {b : Nat} {Gs : List Nat} (h : FB w b Gs) (j : Nat) (hj : j < Gs.length) : w.cell? ⟨b, j, none⟩ = some (.func (.func (Gs.getD j 0)) #[] #[]) := by
 unfold FB at h
 simp [World.cell?, h, List.getElem?_eq_getElem hj]
theorem equal_any (Gs : List Nat) (ps : List (M.Tree -> Bool)) (hgp : Gs.length = ps.length) (hsm : ps.length <= 4) {l : List M.Tree} (hp : ∀ i, i < l.length -> i < ps.length -> FnP (Gs.getD i 0) (ps.getD i fun _ => false) (l.getD i M.Tree.no)) (hG : ∀ i, i < Gs.length -> Ent (Gs.getD i 0)) (pb : Nat) (v : Value) (w : World) (hv : KidsV w v l) (hF : FB w pb Gs) :
  Calls Tryz.prog 123 #[v, .slice (some ⟨pb, 0, none⟩) ps.length ps.length, .func (.func 124) #[] #[]] w fun e w' => e = .returned (.bool (M.matchB ps l)) /\ Below w.heap.size w w' := by
 have hud := hud9
 have hE := Tryz.call124
 have HP := Lib.hid fun i hi hi2 v w' hv => match1_any (hp i hi hi2) (hG i (by omega)) v w' hv
 have HB0 := Lib.hid (Below.refl w.heap.size w)
 have HFB := Lib.hid hF
 have HGP := Lib.hid hgp
 obtain ⟨A, cap, rfl, _⟩ := id hv
 obtain ⟨-, h1, h2, h3⟩ := hv.kid
 have HK := Lib.hid h3
 by_cases hlen : l.length = ps.length
 case neg =>
  have HM := Lib.hid (M.match_len ps l (fun e => hlen e.symm))
  have hne : ¬ (l.length : Int) = (ps.length : Int) := by omega
  have hne2 : ((l.length : Int) == (ps.length : Int)) = false := by rw [beq_eq_false_iff_ne]; exact hne
  clear hp hG hv hF h3 hgp hlen
  go_enter Tryz.func123, Tryz.ntmps123
  go_wp2_with fail
  go_ret
  exact ⟨by rw [HM.out]; rfl, HB0.out⟩
 case pos =>
  obtain ⟨n, en⟩ : ∃ n, n = l.length := ⟨_, rfl⟩
  have enp : n = ps.length := by omega
  have EN := Lib.hid (show n = l.length /\ n = ps.length from ⟨en, enp⟩)
  rw [<- en, <- enp]
  have hn4 : n <= 4 := by omega
  rw [<- en] at h1 h2
  clear hp hG hv hF h3 hgp hlen en enp hsm
  go_enter Tryz.func123, Tryz.ntmps123
  go_wp2_with fail
  go_loopg [17] n (fun g ti wr => ∃ k : Nat, k + g = n /\ ti = .int .i64 k /\ M.matchB ps l = M.matchB (ps.drop k) (l.drop k) /\ Below w.heap.size w wr)
  case atStart => exact ⟨0, by omega, rfl, rfl, HB0.out⟩
  case round =>
   obtain ⟨k, hk, rfl, hal, hB⟩ := hrel
   have HB := Lib.hid hB
   have HAL := Lib.hid hal
   clear hB hal
   cases gk with
   | zero =>
    have hlt : ¬ ((k : Int) < (n : Int)) := by omega
    have HZ := Lib.hid (show M.matchB ps l = true by
     have := EN.out
     rw [HAL.out, List.drop_eq_nil_of_le (by omega), List.drop_eq_nil_of_le (by omega)]
     rfl)
    go_wp2_with fail
    go_ret
    exact ⟨by rw [HZ.out]; rfl, HB.out⟩
   | succ g =>
    have hlt0 : k < l.length /\ k < ps.length := by have := EN.out; omega
    have hlt : (k : Int) < (n : Int) := by omega
    have hltn : k < n := by omega
    obtain ⟨b, off, rfl, hbl, hcell⟩ := HK.out (by omega)
    obtain ⟨T2, A2, n3, c3, x0, x1, x2, x3, hn⟩ := hcell k hlt0.1
    have p0 := (HB.out.cell (p := ⟨b, off + k * 4, none⟩) hbl).trans x0
    have p1 := (HB.out.cell (p := ⟨b, off + k * 4 + 1, none⟩) hbl).trans x1
    have p2 := (HB.out.cell (p := ⟨b, off + k * 4 + 2, none⟩) hbl).trans x2
    have p3 := (HB.out.cell (p := ⟨b, off + k * 4 + 3, none⟩) hbl).trans x3
    have f0 := (HFB.out.below HB.out).c k (by have := HGP.out; omega)
    have flt := (HFB.out.below HB.out).lt
    have CK := Lib.hid fun w' (hb : Below wr.heap.size wr w') => HP.out k hlt0.1 hlt0.2 _ w' (hn.below (HB.out.trans (hb.mono HB.out.size)))
    have HD := Lib.hid (M.match_drop hlt0.2 hlt0.1)
    obtain ⟨u, eu⟩ : ∃ u, u = l.getD k M.Tree.no := ⟨_, rfl⟩
    rw [<- eu] at p0 p2 CK HD
    obtain ⟨K2, eK2⟩ : ∃ K, K = u.kind := ⟨_, rfl⟩
    obtain ⟨n2, en2⟩ : ∃ n, n = u.num := ⟨_, rfl⟩
    obtain ⟨G2, eG2⟩ : ∃ G, G = Gs.getD k 0 := ⟨_, rfl⟩
    rw [<- eK2] at p0 CK
    rw [<- en2] at p2 CK
    rw [<- eG2] at f0 CK
    obtain ⟨r, er⟩ : ∃ r, r = (ps.getD k fun _ => false) u := ⟨_, rfl⟩
    rw [<- er] at CK HD
    clear hcell x0 x1 x2 x3 eu eK2 en2 hn eG2 er hlt0
    have f0' : wr.cell? ⟨pb, 0 + k, none⟩ = some (.func (.func G2) #[] #[]) := by rw [Nat.zero_add]; exact f0
    cases r with
    | true =>
     go_wp2_with fail
     (with_reducible refine (CK.out _ (balloc8 wr _)).mono ?_)
     rintro e w2 ⟨rfl, hb2⟩
     have HB2 := Lib.hid ((HB.out.trans ((balloc8 wr (.cells #[.int .i64 K2, .string T2, .int .u64 (n2 : Nat), .slice A2 n3 c3] 25)).mono HB.out.size)).trans (hb2.mono (by have := HB.out.size; simp; omega)))
     clear hb2
     go_wp2_with fail
     go_roundg g
     case measure => omega
     case rel => exact ⟨k + 1, by omega, by go_num, by rw [HAL.out, HD.out, Bool.true_and], HB2.out⟩
    | false =>
     go_wp2_with fail
     (with_reducible refine (CK.out _ (balloc8 wr _)).mono ?_)
     rintro e w2 ⟨rfl, hb2⟩
     have HB2 := Lib.hid ((HB.out.trans ((balloc8 wr (.cells #[.int .i64 K2, .string T2, .int .u64 (n2 : Nat), .slice A2 n3 c3] 25)).mono HB.out.size)).trans (hb2.mono (by have := HB.out.size; simp; omega)))
     clear hb2
     go_wp2_with fail
     go_ret
     exact ⟨by rw [HAL.out, HD.out, Bool.false_and]; rfl, HB2.out⟩
theorem match_any (Gs : List Nat) (ps : List (M.Tree -> Bool)) (hgp : Gs.length = ps.length) (hsm : ps.length <= 4) {l : List M.Tree} (hp : ∀ i, i < l.length -> i < ps.length -> FnP (Gs.getD i 0) (ps.getD i fun _ => false) (l.getD i M.Tree.no)) (hG : ∀ i, i < Gs.length -> Ent (Gs.getD i 0)) (pb : Nat) (v : Value) (w : World) (hv : KidsV w v l) (hF : FB w pb Gs) :
  Calls Tryz.prog 79 #[v, .slice (some ⟨pb, 0, none⟩) ps.length ps.length] w fun e w' => e = .returned (.bool (M.matchB ps l)) /\ Below w.heap.size w w' := by
 have hud := hud9
 have hmf : ∀ (fn : Fn) (first cap : Array Value) (w : World), (Instr.makeFunc fn first cap).run Tryz.prog w = .ok (.func fn first cap) w := fun _ _ _ _ => rfl
 have EQ := Lib.hid (equal_any Gs ps hgp hsm hp hG pb v w hv hF)
 obtain ⟨A, cap, rfl, _⟩ := id hv
 clear hv hp hG hF hgp
 go_enter Tryz.func79, Tryz.ntmps79
 go_wp2_with fail
 (with_reducible refine (EQ.out).mono ?_)
 rintro e w2 ⟨rfl, hb2⟩
 have HB2 := Lib.hid hb2
 clear hb2
 go_wp2_with fail
 go_ret
 exact ⟨rfl, HB2.out⟩
open Go.RowKit
theorem empty_bs {T : ByteArray} {l : List Nat} (h : M.bs T = l) : T.toList.isEmpty = decide (l = []) := by
 rw [M.empty_is, <- M.bs_len, h]
 cases l <;> simp
theorem isBare_any (t : M.Tree) : FnP 43 (M.barP) t := by
 intro v w hv
 have hud := hud9
 have hnot : ∀ (x : Bool) (w : World), (Op.unary .not (.bool x)).run Tryz.prog w = .ok (.bool (!x)) w := fun _ _ => rfl
 have FORM := Lib.hid (show M.barP t = (decide (t.text = []) && decide (t.num = 0)) from rfl)
 obtain ⟨T, kv, rfl, hT, hok, hk⟩ := id hv
 obtain ⟨A, c, rfl, _⟩ := id hk
 have HV := Lib.hid fun w' (hb : Below w.heap.size w w') => hv.below hb
 have HK := Lib.hid fun w' (hb : Below w.heap.size w w') => hk.below hb
 have HTS := Lib.hid (show T.size <= 140737488351232 from hok.2.2)
 have HT := Lib.hid hT
 obtain ⟨K, eK⟩ : ∃ K, K = t.kind := ⟨_, rfl⟩
 obtain ⟨n, en⟩ : ∃ n, n = t.num := ⟨_, rfl⟩
 obtain ⟨m, em⟩ : ∃ m, m = t.kids.length := ⟨_, rfl⟩
 have HM := Lib.hid (show m = t.kids.length /\ n = t.num /\ K = t.kind from ⟨em, en, eK⟩)
 have hmb : m <= 17592186043904 := by obtain ⟨_, _, e, _, h, _⟩ := hk; rw [em]; exact h
 have hnb : n < 18446744073709551616 := by rw [en]; exact hok.2.1
 rw [<- eK, <- en, <- em] at HV ⊢
 rw [<- em] at HK
 have HB := Lib.hid (balloc8 w (.cells #[.int .i64 K, .string T, .int .u64 (n : Nat), .slice A m c] 25))
 have BX := Lib.hid (Box9.start w ⟨K, T, n, A, m, c⟩)
 obtain ⟨RR, eRR⟩ : ∃ RR, RR = (M.barP) t := ⟨_, rfl⟩
 rw [<- eRR]
 rw [<- eRR] at FORM
 obtain ⟨d0, ed0⟩ : ∃ d, d = decide (t.text = []) := ⟨_, rfl⟩
 obtain ⟨d1, ed1⟩ : ∃ d, d = decide (t.num = 0) := ⟨_, rfl⟩
 rw [<- ed0] at FORM
 rw [<- ed1] at FORM
 have FORM := Lib.hid FORM.out
 have FA0 := Lib.hid (show (d0 = true -> T.toList.isEmpty = true) /\ (d0 = false -> T.toList.isEmpty = false) from by rw [ed0]; exact ⟨fun h => by rw [empty_bs HT.out]; exact h, fun h => by rw [empty_bs HT.out]; exact h⟩)
 have FA1 := Lib.hid (show (d1 = true -> (((n : Nat) : Int) == 0) = true) /\ (d1 = false -> (((n : Nat) : Int) == 0) = false) from by rw [ed1]; rw [<- en]; exact ⟨fun h => by have h := of_decide_eq_true h; rw [beq_iff_eq]; omega, fun h => by have h := of_decide_eq_false h; rw [beq_eq_false_iff_ne]; omega⟩)
 clear hT hok hk hv eRR ed0 ed1
 clear eK en em
 cases d0 with
 | false =>
  have g0 := FA0.out.2 rfl
  clear FA0 FA1
  go_enter Tryz.func43, Tryz.ntmps43
  go_wp2_with fail
  go_ret
  exact ⟨by rw [FORM.out]; try (simp; done); try rfl, HB.out⟩
 | true =>
  have g0 := FA0.out.1 rfl
  cases d1 with
  | false =>
   have g1 := FA1.out.2 rfl
   clear FA0 FA1
   go_enter Tryz.func43, Tryz.ntmps43
   go_wp2_with fail
   go_ret
   exact ⟨by rw [FORM.out]; try (simp; done); try rfl, HB.out⟩
  | true =>
   have g1 := FA1.out.1 rfl
   clear FA0 FA1
   go_enter Tryz.func43, Tryz.ntmps43
   go_wp2_with fail
   go_ret
   exact ⟨by rw [FORM.out]; try (simp; done); try rfl, HB.out⟩
theorem hasName_any (t : M.Tree) : FnP 81 (M.hasNameP) t := by
 intro v w hv
 have hud := hud9
 have hnot : ∀ (x : Bool) (w : World), (Op.unary .not (.bool x)).run Tryz.prog w = .ok (.bool (!x)) w := fun _ _ => rfl
 have FORM := Lib.hid (show M.hasNameP t = (M.nameOk t.text && decide (t.num = 0)) from rfl)
 obtain ⟨T, kv, rfl, hT, hok, hk⟩ := id hv
 obtain ⟨A, c, rfl, _⟩ := id hk
 have HV := Lib.hid fun w' (hb : Below w.heap.size w w') => hv.below hb
 have HK := Lib.hid fun w' (hb : Below w.heap.size w w') => hk.below hb
 have HTS := Lib.hid (show T.size <= 140737488351232 from hok.2.2)
 have HT := Lib.hid hT
 obtain ⟨K, eK⟩ : ∃ K, K = t.kind := ⟨_, rfl⟩
 obtain ⟨n, en⟩ : ∃ n, n = t.num := ⟨_, rfl⟩
 obtain ⟨m, em⟩ : ∃ m, m = t.kids.length := ⟨_, rfl⟩
 have HM := Lib.hid (show m = t.kids.length /\ n = t.num /\ K = t.kind from ⟨em, en, eK⟩)
 have hmb : m <= 17592186043904 := by obtain ⟨_, _, e, _, h, _⟩ := hk; rw [em]; exact h
 have hnb : n < 18446744073709551616 := by rw [en]; exact hok.2.1
 rw [<- eK, <- en, <- em] at HV ⊢
 rw [<- em] at HK
 have HB := Lib.hid (balloc8 w (.cells #[.int .i64 K, .string T, .int .u64 (n : Nat), .slice A m c] 25))
 have BX := Lib.hid (Box9.start w ⟨K, T, n, A, m, c⟩)
 obtain ⟨RR, eRR⟩ : ∃ RR, RR = (M.hasNameP) t := ⟨_, rfl⟩
 rw [<- eRR]
 rw [<- eRR] at FORM
 obtain ⟨d0, ed0⟩ : ∃ d, d = M.nameOk t.text := ⟨_, rfl⟩
 obtain ⟨d1, ed1⟩ : ∃ d, d = decide (t.num = 0) := ⟨_, rfl⟩
 rw [<- ed0] at FORM
 rw [<- ed1] at FORM
 have CALL0 := Lib.hid (fun w1 (hb : Below w.heap.size w w1) => (show Calls Tryz.prog 78 #[.string T] w1 fun e w' => e = .returned (.bool (M.nameOk t.text)) /\ Below w1.heap.size w1 w' by rw [<- HT.out]; exact pisName_any T w1 HTS.out))
 rw [<- ed0] at CALL0
 have FORM := Lib.hid FORM.out
 have FA1 := Lib.hid (show (d1 = true -> (((n : Nat) : Int) == 0) = true) /\ (d1 = false -> (((n : Nat) : Int) == 0) = false) from by rw [ed1]; rw [<- en]; exact ⟨fun h => by have h := of_decide_eq_true h; rw [beq_iff_eq]; omega, fun h => by have h := of_decide_eq_false h; rw [beq_eq_false_iff_ne]; omega⟩)
 clear hT hok hk hv eRR ed0 ed1
 clear eK en em
 cases d0 with
 | false =>
  clear FA1
  go_enter Tryz.func81, Tryz.ntmps81
  go_wp2_with fail
  have CC0 := Lib.hid (CALL0.out _ HB.out)
  refine (CC0.out).mono ?_
  rintro e w1 ⟨rfl, hb⟩
  have HB1 := Lib.hid (Below.trans HB.out (hb.mono HB.out.size))
  have BX1 := Lib.hid (BX.out.below hb)
  clear hb
  obtain ⟨k0, k1, k2, k3⟩ := BX1.out.c
  have hlt0 := BX1.out.lt
  have hlt1 : w.heap.size < w1.heap.size + 1 := by omega
  go_wp2_with fail
  go_ret
  exact ⟨by rw [FORM.out]; try (simp; done); try rfl, HB1.out⟩
 | true =>
  cases d1 with
  | false =>
   have g1 := FA1.out.2 rfl
   clear FA1
   go_enter Tryz.func81, Tryz.ntmps81
   go_wp2_with fail
   have CC0 := Lib.hid (CALL0.out _ HB.out)
   refine (CC0.out).mono ?_
   rintro e w1 ⟨rfl, hb⟩
   have HB1 := Lib.hid (Below.trans HB.out (hb.mono HB.out.size))
   have BX1 := Lib.hid (BX.out.below hb)
   clear hb
   obtain ⟨k0, k1, k2, k3⟩ := BX1.out.c
   have hlt0 := BX1.out.lt
   have hlt1 : w.heap.size < w1.heap.size + 1 := by omega
   go_wp2_with fail
   go_ret
   exact ⟨by rw [FORM.out]; try (simp; done); try rfl, HB1.out⟩
  | true =>
   have g1 := FA1.out.1 rfl
   clear FA1
   go_enter Tryz.func81, Tryz.ntmps81
   go_wp2_with fail
   have CC0 := Lib.hid (CALL0.out _ HB.out)
   refine (CC0.out).mono ?_
   rintro e w1 ⟨rfl, hb⟩
   have HB1 := Lib.hid (Below.trans HB.out (hb.mono HB.out.size))
   have BX1 := Lib.hid (BX.out.below hb)
   clear hb
   obtain ⟨k0, k1, k2, k3⟩ := BX1.out.c
   have hlt0 := BX1.out.lt
   have hlt1 : w.heap.size < w1.heap.size + 1 := by omega
   go_wp2_with fail
   go_ret
   exact ⟨by rw [FORM.out]; try (simp; done); try rfl, HB1.out⟩
theorem hasNumber_any (t : M.Tree) : FnP 129 (M.hasNumP) t := by
 intro v w hv
 have hud := hud9
 have hnot : ∀ (x : Bool) (w : World), (Op.unary .not (.bool x)).run Tryz.prog w = .ok (.bool (!x)) w := fun _ _ => rfl
 have FORM := Lib.hid (show M.hasNumP t = (decide (t.text = []) && decide (t.num <= 4294967295) && decide (t.kids.length = 0)) from rfl)
 obtain ⟨T, kv, rfl, hT, hok, hk⟩ := id hv
 obtain ⟨A, c, rfl, _⟩ := id hk
 have HV := Lib.hid fun w' (hb : Below w.heap.size w w') => hv.below hb
 have HK := Lib.hid fun w' (hb : Below w.heap.size w w') => hk.below hb
 have HTS := Lib.hid (show T.size <= 140737488351232 from hok.2.2)
 have HT := Lib.hid hT
 obtain ⟨K, eK⟩ : ∃ K, K = t.kind := ⟨_, rfl⟩
 obtain ⟨n, en⟩ : ∃ n, n = t.num := ⟨_, rfl⟩
 obtain ⟨m, em⟩ : ∃ m, m = t.kids.length := ⟨_, rfl⟩
 have HM := Lib.hid (show m = t.kids.length /\ n = t.num /\ K = t.kind from ⟨em, en, eK⟩)
 have hmb : m <= 17592186043904 := by obtain ⟨_, _, e, _, h, _⟩ := hk; rw [em]; exact h
 have hnb : n < 18446744073709551616 := by rw [en]; exact hok.2.1
 rw [<- eK, <- en, <- em] at HV ⊢
 rw [<- em] at HK
 have HB := Lib.hid (balloc8 w (.cells #[.int .i64 K, .string T, .int .u64 (n : Nat), .slice A m c] 25))
 have BX := Lib.hid (Box9.start w ⟨K, T, n, A, m, c⟩)
 obtain ⟨RR, eRR⟩ : ∃ RR, RR = (M.hasNumP) t := ⟨_, rfl⟩
 rw [<- eRR]
 rw [<- eRR] at FORM
 obtain ⟨d0, ed0⟩ : ∃ d, d = decide (t.text = []) := ⟨_, rfl⟩
 obtain ⟨d1, ed1⟩ : ∃ d, d = decide (t.num <= 4294967295) := ⟨_, rfl⟩
 obtain ⟨d2, ed2⟩ : ∃ d, d = decide (t.kids.length = 0) := ⟨_, rfl⟩
 rw [<- ed0] at FORM
 rw [<- ed1] at FORM
 rw [<- ed2] at FORM
 have FORM := Lib.hid FORM.out
 have FA0 := Lib.hid (show (d0 = true -> T.toList.isEmpty = true) /\ (d0 = false -> T.toList.isEmpty = false) from by rw [ed0]; exact ⟨fun h => by rw [empty_bs HT.out]; exact h, fun h => by rw [empty_bs HT.out]; exact h⟩)
 have FA1 := Lib.hid (show (d1 = true -> n <= 4294967295) /\ (d1 = false -> ¬ n <= 4294967295) from by rw [ed1]; rw [<- en]; exact ⟨fun h => of_decide_eq_true h, fun h => of_decide_eq_false h⟩)
 have FA2 := Lib.hid (show (d2 = true -> (((m : Nat) : Int) == 0) = true) /\ (d2 = false -> (((m : Nat) : Int) == 0) = false) from by rw [ed2]; rw [<- em]; exact ⟨fun h => by have h := of_decide_eq_true h; rw [beq_iff_eq]; omega, fun h => by have h := of_decide_eq_false h; rw [beq_eq_false_iff_ne]; omega⟩)
 clear hT hok hk hv eRR ed0 ed1 ed2
 clear eK en em
 cases d0 with
 | false =>
  have g0 := FA0.out.2 rfl
  clear FA0 FA1 FA2
  go_enter Tryz.func129, Tryz.ntmps129
  go_wp2_with fail
  go_ret
  exact ⟨by rw [FORM.out]; try (simp; done); try rfl, HB.out⟩
 | true =>
  have g0 := FA0.out.1 rfl
  cases d1 with
  | false =>
   have g1 := FA1.out.2 rfl
   clear FA0 FA1 FA2
   go_enter Tryz.func129, Tryz.ntmps129
   go_wp2_with fail
   go_ret
   exact ⟨by rw [FORM.out]; try (simp; done); try rfl, HB.out⟩
  | true =>
   have g1 := FA1.out.1 rfl
   cases d2 with
   | false =>
    have g2 := FA2.out.2 rfl
    clear FA0 FA1 FA2
    go_enter Tryz.func129, Tryz.ntmps129
    go_wp2_with fail
    go_ret
    exact ⟨by rw [FORM.out]; try (simp; done); try rfl, HB.out⟩
   | true =>
    have g2 := FA2.out.1 rfl
    clear FA0 FA1 FA2
    go_enter Tryz.func129, Tryz.ntmps129
    go_wp2_with fail
    go_ret
    exact ⟨by rw [FORM.out]; try (simp; done); try rfl, HB.out⟩
theorem isNumberP_any (t : M.Tree) : FnP 125 (M.numberB) t := by
 intro v w hv
 have hud := hud9
 have hnot : ∀ (x : Bool) (w : World), (Op.unary .not (.bool x)).run Tryz.prog w = .ok (.bool (!x)) w := fun _ _ => rfl
 have FORM := Lib.hid (M.number_form t)
 obtain ⟨T, kv, rfl, hT, hok, hk⟩ := id hv
 obtain ⟨A, c, rfl, _⟩ := id hk
 have HV := Lib.hid fun w' (hb : Below w.heap.size w w') => hv.below hb
 have HK := Lib.hid fun w' (hb : Below w.heap.size w w') => hk.below hb
 have HTS := Lib.hid (show T.size <= 140737488351232 from hok.2.2)
 have HT := Lib.hid hT
 obtain ⟨K, eK⟩ : ∃ K, K = t.kind := ⟨_, rfl⟩
 obtain ⟨n, en⟩ : ∃ n, n = t.num := ⟨_, rfl⟩
 obtain ⟨m, em⟩ : ∃ m, m = t.kids.length := ⟨_, rfl⟩
 have HM := Lib.hid (show m = t.kids.length /\ n = t.num /\ K = t.kind from ⟨em, en, eK⟩)
 have hmb : m <= 17592186043904 := by obtain ⟨_, _, e, _, h, _⟩ := hk; rw [em]; exact h
 have hnb : n < 18446744073709551616 := by rw [en]; exact hok.2.1
 rw [<- eK, <- en, <- em] at HV ⊢
 rw [<- em] at HK
 have HB := Lib.hid (balloc8 w (.cells #[.int .i64 K, .string T, .int .u64 (n : Nat), .slice A m c] 25))
 have BX := Lib.hid (Box9.start w ⟨K, T, n, A, m, c⟩)
 obtain ⟨RR, eRR⟩ : ∃ RR, RR = (M.numberB) t := ⟨_, rfl⟩
 rw [<- eRR]
 rw [<- eRR] at FORM
 obtain ⟨d0, ed0⟩ : ∃ d, d = decide (t.kind = 14) := ⟨_, rfl⟩
 obtain ⟨d1, ed1⟩ : ∃ d, d = M.hasNumP t := ⟨_, rfl⟩
 rw [<- ed0] at FORM
 rw [<- ed1] at FORM
 have CALL1 := Lib.hid (fun w1 (hb : Below w.heap.size w w1) => (show Calls Tryz.prog 129 #[.agg #[.int .i64 K, .string T, .int .u64 (n : Nat), .slice A m c]] w1 fun e w' => e = .returned (.bool (M.hasNumP t)) /\ Below w1.heap.size w1 w' from hasNumber_any t _ w1 (HV.out w1 hb)))
 rw [<- ed1] at CALL1
 have FORM := Lib.hid FORM.out
 have FA0 := Lib.hid (show (d0 = true -> K = 14) /\ (d0 = false -> (K == 14) = false /\ (K != 14) = true) from by rw [ed0]; rw [<- eK]; exact ⟨fun h => of_decide_eq_true h, fun h => by have h := of_decide_eq_false h; exact ⟨by rw [beq_eq_false_iff_ne]; exact h, by rw [bne_iff_ne]; exact h⟩⟩)
 clear hT hok hk hv eRR ed0 ed1
 clear eK en em
 cases d0 with
 | false =>
  have g0 := FA0.out.2 rfl
  obtain ⟨gk, gk2⟩ := g0
  clear FA0
  go_enter Tryz.func125, Tryz.ntmps125
  go_wp2_with fail
  go_ret
  exact ⟨by rw [FORM.out]; try (simp; done); try rfl, HB.out⟩
 | true =>
  have g0 := FA0.out.1 rfl
  subst g0
  clear FA0
  go_enter Tryz.func125, Tryz.ntmps125
  go_wp2_with fail
  have CC1 := Lib.hid (CALL1.out _ HB.out)
  refine (CC1.out).mono ?_
  rintro e w1 ⟨rfl, hb⟩
  have HB1 := Lib.hid (Below.trans HB.out (hb.mono HB.out.size))
  have BX1 := Lib.hid (BX.out.below hb)
  clear hb
  obtain ⟨k0, k1, k2, k3⟩ := BX1.out.c
  have hlt0 := BX1.out.lt
  have hlt1 : w.heap.size < w1.heap.size + 1 := by omega
  go_wp2_with fail
  go_ret
  exact ⟨by rw [FORM.out]; try (simp; done); try rfl, HB1.out⟩
theorem isRecipient_any (t : M.Tree) : FnP 84 (M.toB) t := by
 intro v w hv
 have hud := hud9
 have hnot : ∀ (x : Bool) (w : World), (Op.unary .not (.bool x)).run Tryz.prog w = .ok (.bool (!x)) w := fun _ _ => rfl
 have FORM := Lib.hid (M.to_form t)
 obtain ⟨T, kv, rfl, hT, hok, hk⟩ := id hv
 obtain ⟨A, c, rfl, _⟩ := id hk
 have HV := Lib.hid fun w' (hb : Below w.heap.size w w') => hv.below hb
 have HK := Lib.hid fun w' (hb : Below w.heap.size w w') => hk.below hb
 have HTS := Lib.hid (show T.size <= 140737488351232 from hok.2.2)
 have HT := Lib.hid hT
 obtain ⟨K, eK⟩ : ∃ K, K = t.kind := ⟨_, rfl⟩
 obtain ⟨n, en⟩ : ∃ n, n = t.num := ⟨_, rfl⟩
 obtain ⟨m, em⟩ : ∃ m, m = t.kids.length := ⟨_, rfl⟩
 have HM := Lib.hid (show m = t.kids.length /\ n = t.num /\ K = t.kind from ⟨em, en, eK⟩)
 have hmb : m <= 17592186043904 := by obtain ⟨_, _, e, _, h, _⟩ := hk; rw [em]; exact h
 have hnb : n < 18446744073709551616 := by rw [en]; exact hok.2.1
 rw [<- eK, <- en, <- em] at HV ⊢
 rw [<- em] at HK
 have HB := Lib.hid (balloc8 w (.cells #[.int .i64 K, .string T, .int .u64 (n : Nat), .slice A m c] 25))
 have BX := Lib.hid (Box9.start w ⟨K, T, n, A, m, c⟩)
 obtain ⟨RR, eRR⟩ : ∃ RR, RR = (M.toB) t := ⟨_, rfl⟩
 rw [<- eRR]
 rw [<- eRR] at FORM
 obtain ⟨d0, ed0⟩ : ∃ d, d = decide (t.kind = 12) := ⟨_, rfl⟩
 obtain ⟨d1, ed1⟩ : ∃ d, d = M.hasNumP t := ⟨_, rfl⟩
 rw [<- ed0] at FORM
 rw [<- ed1] at FORM
 have CALL1 := Lib.hid (fun w1 (hb : Below w.heap.size w w1) => (show Calls Tryz.prog 129 #[.agg #[.int .i64 K, .string T, .int .u64 (n : Nat), .slice A m c]] w1 fun e w' => e = .returned (.bool (M.hasNumP t)) /\ Below w1.heap.size w1 w' from hasNumber_any t _ w1 (HV.out w1 hb)))
 rw [<- ed1] at CALL1
 have FORM := Lib.hid FORM.out
 have FA0 := Lib.hid (show (d0 = true -> K = 12) /\ (d0 = false -> (K == 12) = false /\ (K != 12) = true) from by rw [ed0]; rw [<- eK]; exact ⟨fun h => of_decide_eq_true h, fun h => by have h := of_decide_eq_false h; exact ⟨by rw [beq_eq_false_iff_ne]; exact h, by rw [bne_iff_ne]; exact h⟩⟩)
 clear hT hok hk hv eRR ed0 ed1
 clear eK en em
 cases d0 with
 | false =>
  have g0 := FA0.out.2 rfl
  obtain ⟨gk, gk2⟩ := g0
  clear FA0
  go_enter Tryz.func84, Tryz.ntmps84
  go_wp2_with fail
  go_ret
  exact ⟨by rw [FORM.out]; try (simp; done); try rfl, HB.out⟩
 | true =>
  have g0 := FA0.out.1 rfl
  subst g0
  clear FA0
  go_enter Tryz.func84, Tryz.ntmps84
  go_wp2_with fail
  have CC1 := Lib.hid (CALL1.out _ HB.out)
  refine (CC1.out).mono ?_
  rintro e w1 ⟨rfl, hb⟩
  have HB1 := Lib.hid (Below.trans HB.out (hb.mono HB.out.size))
  have BX1 := Lib.hid (BX.out.below hb)
  clear hb
  obtain ⟨k0, k1, k2, k3⟩ := BX1.out.c
  have hlt0 := BX1.out.lt
  have hlt1 : w.heap.size < w1.heap.size + 1 := by omega
  go_wp2_with fail
  go_ret
  exact ⟨by rw [FORM.out]; try (simp; done); try rfl, HB1.out⟩
open Go.RowKit
theorem kid_mem9 {l : List M.Tree} {i : Nat} (h : i < l.length) : l.getD i M.Tree.no ∈ l := by
 rw [List.getD_eq_getElem?_getD, List.getElem?_eq_getElem h]; exact List.getElem_mem _
theorem isUnary_any (s : ByteArray) (w : World) : Calls Tryz.prog 127 #[.string s] w fun e w' => e = .returned (.bool (M.unB (M.bs s))) /\ Below w.heap.size w w' := by
 have hud := hud9
 have HB := Lib.hid (Below.refl w.heap.size w)
 by_cases e0 : s = ⟨#[33]⟩
 ·subst e0
  have FORM := Lib.hid (show M.unB (M.bs ⟨#[33]⟩) = true by decide)
  go_enter Tryz.func127, Tryz.ntmps127
  go_wp2_with fail
  go_ret
  exact ⟨by rw [FORM.out]; rfl, HB.out⟩
 have q0 : (s.toList == [33]) = false := by have := M.str_ne e0; simpa [go_sem] using this
 by_cases e1 : s = ⟨#[45]⟩
 ·subst e1
  have FORM := Lib.hid (show M.unB (M.bs ⟨#[45]⟩) = true by decide)
  go_enter Tryz.func127, Tryz.ntmps127
  go_wp2_with fail
  go_ret
  exact ⟨by rw [FORM.out]; rfl, HB.out⟩
 have q1 : (s.toList == [45]) = false := by have := M.str_ne e1; simpa [go_sem] using this
 have FORM := Lib.hid (show M.unB (M.bs s) = false by
  cases hh : M.unB (M.bs s) with
  | false => rfl
  | true =>
   exfalso
   unfold M.unB at hh; rw [decide_eq_true_eq] at hh
   rcases hh with hh | hh
   ·exact e0 (M.bs_inj hh)
   ·exact e1 (M.bs_inj hh)

 )
 clear e0 e1
 go_enter Tryz.func127, Tryz.ntmps127
 go_wp2_with fail
 go_ret
 exact ⟨by rw [FORM.out]; try rfl, HB.out⟩
theorem isBinary_any (s : ByteArray) (w : World) : Calls Tryz.prog 128 #[.string s] w fun e w' => e = .returned (.bool (M.opB (M.bs s))) /\ Below w.heap.size w w' := by
 have hud := hud9
 have HB := Lib.hid (Below.refl w.heap.size w)
 by_cases e0 : s = ⟨#[124]⟩
 ·subst e0
  have FORM := Lib.hid (show M.opB (M.bs ⟨#[124]⟩) = true by decide)
  go_enter Tryz.func128, Tryz.ntmps128
  go_wp2_with fail
  go_ret
  exact ⟨by rw [FORM.out]; rfl, HB.out⟩
 have q0 : (s.toList == [124]) = false := by have := M.str_ne e0; simpa [go_sem] using this
 by_cases e1 : s = ⟨#[94]⟩
 ·subst e1
  have FORM := Lib.hid (show M.opB (M.bs ⟨#[94]⟩) = true by decide)
  go_enter Tryz.func128, Tryz.ntmps128
  go_wp2_with fail
  go_ret
  exact ⟨by rw [FORM.out]; rfl, HB.out⟩
 have q1 : (s.toList == [94]) = false := by have := M.str_ne e1; simpa [go_sem] using this
 by_cases e2 : s = ⟨#[38]⟩
 ·subst e2
  have FORM := Lib.hid (show M.opB (M.bs ⟨#[38]⟩) = true by decide)
  go_enter Tryz.func128, Tryz.ntmps128
  go_wp2_with fail
  go_ret
  exact ⟨by rw [FORM.out]; rfl, HB.out⟩
 have q2 : (s.toList == [38]) = false := by have := M.str_ne e2; simpa [go_sem] using this
 by_cases e3 : s = ⟨#[61, 61]⟩
 ·subst e3
  have FORM := Lib.hid (show M.opB (M.bs ⟨#[61, 61]⟩) = true by decide)
  go_enter Tryz.func128, Tryz.ntmps128
  go_wp2_with fail
  go_ret
  exact ⟨by rw [FORM.out]; rfl, HB.out⟩
 have q3 : (s.toList == [61, 61]) = false := by have := M.str_ne e3; simpa [go_sem] using this
 by_cases e4 : s = ⟨#[60]⟩
 ·subst e4
  have FORM := Lib.hid (show M.opB (M.bs ⟨#[60]⟩) = true by decide)
  go_enter Tryz.func128, Tryz.ntmps128
  go_wp2_with fail
  go_ret
  exact ⟨by rw [FORM.out]; rfl, HB.out⟩
 have q4 : (s.toList == [60]) = false := by have := M.str_ne e4; simpa [go_sem] using this
 by_cases e5 : s = ⟨#[43]⟩
 ·subst e5
  have FORM := Lib.hid (show M.opB (M.bs ⟨#[43]⟩) = true by decide)
  go_enter Tryz.func128, Tryz.ntmps128
  go_wp2_with fail
  go_ret
  exact ⟨by rw [FORM.out]; rfl, HB.out⟩
 have q5 : (s.toList == [43]) = false := by have := M.str_ne e5; simpa [go_sem] using this
 by_cases e6 : s = ⟨#[45]⟩
 ·subst e6
  have FORM := Lib.hid (show M.opB (M.bs ⟨#[45]⟩) = true by decide)
  go_enter Tryz.func128, Tryz.ntmps128
  go_wp2_with fail
  go_ret
  exact ⟨by rw [FORM.out]; rfl, HB.out⟩
 have q6 : (s.toList == [45]) = false := by have := M.str_ne e6; simpa [go_sem] using this
 by_cases e7 : s = ⟨#[42]⟩
 ·subst e7
  have FORM := Lib.hid (show M.opB (M.bs ⟨#[42]⟩) = true by decide)
  go_enter Tryz.func128, Tryz.ntmps128
  go_wp2_with fail
  go_ret
  exact ⟨by rw [FORM.out]; rfl, HB.out⟩
 have q7 : (s.toList == [42]) = false := by have := M.str_ne e7; simpa [go_sem] using this
 have FORM := Lib.hid (show M.opB (M.bs s) = false by
  cases hh : M.opB (M.bs s) with
  | false => rfl
  | true =>
   exfalso
   have hm : M.bs s ∈ [[124], [94], [38], [61, 61], [60], [43], [45], [42]] := by
    unfold M.opB at hh
    rw [decide_eq_true_eq] at hh
    simp only [M.signsL, List.mem_cons, List.not_mem_nil, or_false] at hh ⊢
    rcases hh with h | h | h | (h | h) | (h | h) | h <;> simp [h]
   simp only [List.mem_cons, List.not_mem_nil, or_false] at hm
   rcases hm with hm | hm | hm | hm | hm | hm | hm | hm
   ·exact e0 (M.bs_inj hm)
   ·exact e1 (M.bs_inj hm)
   ·exact e2 (M.bs_inj hm)
   ·exact e3 (M.bs_inj hm)
   ·exact e4 (M.bs_inj hm)
   ·exact e5 (M.bs_inj hm)
   ·exact e6 (M.bs_inj hm)
   ·exact e7 (M.bs_inj hm)

 )
 clear e0 e1 e2 e3 e4 e5 e6 e7
 go_enter Tryz.func128, Tryz.ntmps128
 go_wp2_with fail
 go_ret
 exact ⟨by rw [FORM.out]; try rfl, HB.out⟩
theorem isType_any (t : M.Tree) : FnP 80 (M.typeB) t := by
 intro v w hv
 have hud := hud9
 have hnot : ∀ (x : Bool) (w : World), (Op.unary .not (.bool x)).run Tryz.prog w = .ok (.bool (!x)) w := fun _ _ => rfl
 have FORM := Lib.hid (M.type_form t)
 obtain ⟨T, kv, rfl, hT, hok, hk⟩ := id hv
 obtain ⟨A, c, rfl, _⟩ := id hk
 have HV := Lib.hid fun w' (hb : Below w.heap.size w w') => hv.below hb
 have HK := Lib.hid fun w' (hb : Below w.heap.size w w') => hk.below hb
 have HTS := Lib.hid (show T.size <= 140737488351232 from hok.2.2)
 have HT := Lib.hid hT
 obtain ⟨K, eK⟩ : ∃ K, K = t.kind := ⟨_, rfl⟩
 obtain ⟨n, en⟩ : ∃ n, n = t.num := ⟨_, rfl⟩
 obtain ⟨m, em⟩ : ∃ m, m = t.kids.length := ⟨_, rfl⟩
 have HM := Lib.hid (show m = t.kids.length /\ n = t.num /\ K = t.kind from ⟨em, en, eK⟩)
 have hmb : m <= 17592186043904 := by obtain ⟨_, _, e, _, h, _⟩ := hk; rw [em]; exact h
 have hnb : n < 18446744073709551616 := by rw [en]; exact hok.2.1
 rw [<- eK, <- en, <- em] at HV ⊢
 rw [<- em] at HK
 have HB := Lib.hid (balloc8 w (.cells #[.int .i64 K, .string T, .int .u64 (n : Nat), .slice A m c] 25))
 have BX := Lib.hid (Box9.start w ⟨K, T, n, A, m, c⟩)
 obtain ⟨RR, eRR⟩ : ∃ RR, RR = (M.typeB) t := ⟨_, rfl⟩
 rw [<- eRR]
 rw [<- eRR] at FORM
 obtain ⟨d0, ed0⟩ : ∃ d, d = decide (t.kind = 11) := ⟨_, rfl⟩
 obtain ⟨d1, ed1⟩ : ∃ d, d = decide (t.text = []) := ⟨_, rfl⟩
 obtain ⟨d2, ed2⟩ : ∃ d, d = M.matchB [M.numberB, M.numberB] t.kids := ⟨_, rfl⟩
 obtain ⟨d3, ed3⟩ : ∃ d, d = (if t.num = 1 \/ t.num = 2 then decide ((t.kids.getD 0 M.Tree.no).num = 0) else decide (t.num = 3)) := ⟨_, rfl⟩
 rw [<- ed0] at FORM
 rw [<- ed1] at FORM
 rw [<- ed2] at FORM
 rw [<- ed3] at FORM
 have CALL2 := Lib.hid (fun w1 (hb : Below w.heap.size w w1) => (show Calls Tryz.prog 79 #[.slice A m c, .slice (some ⟨w1.heap.size, 0, none⟩) 2 2] (w1.alloc (.cells #[.func (.func 125) #[] #[], .func (.func 125) #[] #[]] 34)) fun e w' => e = .returned (.bool (M.matchB [M.numberB, M.numberB] t.kids)) /\ Below (w1.alloc (.cells #[.func (.func 125) #[] #[], .func (.func 125) #[] #[]] 34)).heap.size (w1.alloc (.cells #[.func (.func 125) #[] #[], .func (.func 125) #[] #[]] 34)) w' from match_any [125, 125] [M.numberB, M.numberB] rfl (by simp) (by
    intro i hi hi2
    match i, hi2 with
    | 0, _ => exact isNumberP_any _
    | 1, _ => exact isNumberP_any _
    | k + 2, h => exact absurd h (by simp)) (by
    intro i hi
    match i, hi with
    | 0, _ => exact Tryz.call125
    | 1, _ => exact Tryz.call125
    | k + 2, h => exact absurd h (by simp)) w1.heap.size _ _ (KidsV.below (HK.out w1 hb) (balloc8 w1 _)) (alloc_new w1 _ _)))
 rw [<- ed2] at CALL2
 have FORM := Lib.hid FORM.out
 have FA0 := Lib.hid (show (d0 = true -> K = 11) /\ (d0 = false -> (K == 11) = false /\ (K != 11) = true) from by rw [ed0]; rw [<- eK]; exact ⟨fun h => of_decide_eq_true h, fun h => by have h := of_decide_eq_false h; exact ⟨by rw [beq_eq_false_iff_ne]; exact h, by rw [bne_iff_ne]; exact h⟩⟩)
 have FA1 := Lib.hid (show (d1 = true -> T.toList.isEmpty = true) /\ (d1 = false -> T.toList.isEmpty = false) from by rw [ed1]; exact ⟨fun h => by rw [empty_bs HT.out]; exact h, fun h => by rw [empty_bs HT.out]; exact h⟩)
 have FT2 := Lib.hid (show d2 = true -> t.kids.length = 2 from by rw [ed2]; intro h; rcases hl : t.kids with _ | ⟨a, _ | ⟨b, _ | ⟨c, r⟩⟩⟩ <;> simp [hl, M.matchB] at h ⊢)
 have HKD := Lib.hid (show 0 < t.kids.length -> ∃ b off, A = some ⟨b, off, none⟩ /\ b < w.heap.size /\ ∃ q : Nat, w.cell? ⟨b, off + 2, none⟩ = some (.int .u64 (q : Nat)) /\ q = (t.kids.getD 0 M.Tree.no).num from fun h0 => by
  obtain ⟨_, _, _, h3⟩ := (id hk).kid
  obtain ⟨b, off, e, hbl, h4⟩ := h3 (by omega)
  obtain ⟨T2, A2, n2, c2, x0, x1, x2, x3, hn⟩ := h4 0 (by omega)
  exact ⟨b, off, e, hbl, _, by simpa using x2, rfl⟩)
 have HD3 := Lib.hid ed3
 clear hT hok hk hv eRR ed0 ed1 ed2 ed3
 clear eK en em
 cases d0 with
 | false =>
  have g0 := FA0.out.2 rfl
  obtain ⟨gk, gk2⟩ := g0
  clear FA0 FA1
  go_enter Tryz.func80, Tryz.ntmps80
  go_wp2_with fail
  go_ret
  exact ⟨by rw [FORM.out]; try (simp; done); try rfl, HB.out⟩
 | true =>
  have g0 := FA0.out.1 rfl
  subst g0
  cases d1 with
  | false =>
   have g1 := FA1.out.2 rfl
   clear FA0 FA1
   go_enter Tryz.func80, Tryz.ntmps80
   go_wp2_with fail
   go_ret
   exact ⟨by rw [FORM.out]; try (simp; done); try rfl, HB.out⟩
  | true =>
   have g1 := FA1.out.1 rfl
   cases d2 with
   | false =>
    clear FA0 FA1
    go_enter Tryz.func80, Tryz.ntmps80
    go_wp2_with fail
    obtain ⟨w0, ew0⟩ : ∃ w0, w0 = w.alloc (.cells #[.int .i64 11, .string T, .int .u64 (n : Nat), .slice A m c] 25) := ⟨_, rfl⟩
    have sz0 : w.heap.size + 1 = w0.heap.size := by rw [ew0]; simp
    rw [<- ew0, sz0]
    rw [<- ew0] at HB BX
    clear ew0 sz0
    have CC2 := Lib.hid (CALL2.out _ HB.out)
    refine (CC2.out).mono ?_
    rintro e w1 ⟨rfl, hb⟩
    have HBa := Lib.hid (Below.alloc HB.out HB.out.size (.cells #[.func (.func 125) #[] #[], .func (.func 125) #[] #[]] 34))
    have HB1 := Lib.hid (Below.trans HBa.out (hb.mono HBa.out.size))
    clear HBa
    have BX1 := Lib.hid ((BX.out.alloc _).below hb)
    clear hb
    obtain ⟨k0, k1, k2, k3⟩ := BX1.out.c
    have hlt0 := BX1.out.lt
    have hlt1 : w.heap.size < w1.heap.size + 1 := by omega
    go_wp2_with fail
    go_ret
    exact ⟨by rw [FORM.out]; try (simp; done); try rfl, HB1.out⟩
   | true =>
    have hm2 : m = 2 := by rw [HM.out.1]; exact FT2.out rfl
    have hbb := HKD.out (by have := HM.out.1; omega)
    obtain ⟨b, off, rfl, hbl, q, hq, hqe⟩ := hbb
    have HQE := Lib.hid hqe
    have HQ := Lib.hid hq
    have HBL := Lib.hid hbl
    clear hq hbl hqe
    have HM2 := Lib.hid hm2
    have hm0 : 0 < m := by omega
    clear hm2
    by_cases n1 : n = 1
    ·have hn1 : (((n : Nat) : Int) == 1) = true := by rw [beq_iff_eq]; omega
     have HN := Lib.hid n1
     clear n1
     rcases Nat.eq_zero_or_pos q with hq0 | hq0
     ·have hq1 : (((q : Nat) : Int) == 0) = true := by rw [beq_iff_eq]; omega
      have FORM := Lib.hid (FORM.out.trans (show _ = true by rw [HD3.out, <- HM.out.2.1, if_pos (by have := HN.out; omega), <- HQE.out, decide_eq_true hq0]; try rfl))
      clear hq0
      clear FA0 FA1
      go_enter Tryz.func80, Tryz.ntmps80
      go_wp2_with fail
      obtain ⟨w0, ew0⟩ : ∃ w0, w0 = w.alloc (.cells #[.int .i64 11, .string T, .int .u64 (n : Nat), .slice (some ⟨b, off, none⟩) m c] 25) := ⟨_, rfl⟩
      have sz0 : w.heap.size + 1 = w0.heap.size := by rw [ew0]; simp
      rw [<- ew0, sz0]
      rw [<- ew0] at HB BX
      clear ew0 sz0
      have CC2 := Lib.hid (CALL2.out _ HB.out)
      refine (CC2.out).mono ?_
      rintro e w1 ⟨rfl, hb⟩
      have HBa := Lib.hid (Below.alloc HB.out HB.out.size (.cells #[.func (.func 125) #[] #[], .func (.func 125) #[] #[]] 34))
      have HB1 := Lib.hid (Below.trans HBa.out (hb.mono HBa.out.size))
      clear HBa
      have BX1 := Lib.hid ((BX.out.alloc _).below hb)
      clear hb
      obtain ⟨k0, k1, k2, k3⟩ := BX1.out.c
      have hlt0 := BX1.out.lt
      have hlt1 : w.heap.size < w1.heap.size + 1 := by omega
      have qc := (HB1.out.cell (p := ⟨b, off + 2, none⟩) HBL.out).trans HQ.out
      go_wp2_with fail
      go_ret
      exact ⟨by rw [FORM.out]; try (simp; done); try rfl, HB1.out⟩
     ·have hq1 : (((q : Nat) : Int) == 0) = false := by rw [beq_eq_false_iff_ne]; omega
      have FORM := Lib.hid (FORM.out.trans (show _ = false by rw [HD3.out, <- HM.out.2.1, if_pos (by have := HN.out; omega), <- HQE.out, decide_eq_false (by omega)]; try rfl))
      clear FA0 FA1
      go_enter Tryz.func80, Tryz.ntmps80
      go_wp2_with fail
      obtain ⟨w0, ew0⟩ : ∃ w0, w0 = w.alloc (.cells #[.int .i64 11, .string T, .int .u64 (n : Nat), .slice (some ⟨b, off, none⟩) m c] 25) := ⟨_, rfl⟩
      have sz0 : w.heap.size + 1 = w0.heap.size := by rw [ew0]; simp
      rw [<- ew0, sz0]
      rw [<- ew0] at HB BX
      clear ew0 sz0
      have CC2 := Lib.hid (CALL2.out _ HB.out)
      refine (CC2.out).mono ?_
      rintro e w1 ⟨rfl, hb⟩
      have HBa := Lib.hid (Below.alloc HB.out HB.out.size (.cells #[.func (.func 125) #[] #[], .func (.func 125) #[] #[]] 34))
      have HB1 := Lib.hid (Below.trans HBa.out (hb.mono HBa.out.size))
      clear HBa
      have BX1 := Lib.hid ((BX.out.alloc _).below hb)
      clear hb
      obtain ⟨k0, k1, k2, k3⟩ := BX1.out.c
      have hlt0 := BX1.out.lt
      have hlt1 : w.heap.size < w1.heap.size + 1 := by omega
      have qc := (HB1.out.cell (p := ⟨b, off + 2, none⟩) HBL.out).trans HQ.out
      go_wp2_with fail
      go_ret
      exact ⟨by rw [FORM.out]; try (simp; done); try rfl, HB1.out⟩
    have hn1 : (((n : Nat) : Int) == 1) = false := by rw [beq_eq_false_iff_ne]; omega
    by_cases n2 : n = 2
    ·have hn2 : (((n : Nat) : Int) == 2) = true := by rw [beq_iff_eq]; omega
     have HN := Lib.hid n2
     clear n2 n1
     rcases Nat.eq_zero_or_pos q with hq0 | hq0
     ·have hq1 : (((q : Nat) : Int) == 0) = true := by rw [beq_iff_eq]; omega
      have FORM := Lib.hid (FORM.out.trans (show _ = true by rw [HD3.out, <- HM.out.2.1, if_pos (by have := HN.out; omega), <- HQE.out, decide_eq_true hq0]; try rfl))
      clear hq0
      clear FA0 FA1
      go_enter Tryz.func80, Tryz.ntmps80
      go_wp2_with fail
      obtain ⟨w0, ew0⟩ : ∃ w0, w0 = w.alloc (.cells #[.int .i64 11, .string T, .int .u64 (n : Nat), .slice (some ⟨b, off, none⟩) m c] 25) := ⟨_, rfl⟩
      have sz0 : w.heap.size + 1 = w0.heap.size := by rw [ew0]; simp
      rw [<- ew0, sz0]
      rw [<- ew0] at HB BX
      clear ew0 sz0
      have CC2 := Lib.hid (CALL2.out _ HB.out)
      refine (CC2.out).mono ?_
      rintro e w1 ⟨rfl, hb⟩
      have HBa := Lib.hid (Below.alloc HB.out HB.out.size (.cells #[.func (.func 125) #[] #[], .func (.func 125) #[] #[]] 34))
      have HB1 := Lib.hid (Below.trans HBa.out (hb.mono HBa.out.size))
      clear HBa
      have BX1 := Lib.hid ((BX.out.alloc _).below hb)
      clear hb
      obtain ⟨k0, k1, k2, k3⟩ := BX1.out.c
      have hlt0 := BX1.out.lt
      have hlt1 : w.heap.size < w1.heap.size + 1 := by omega
      have qc := (HB1.out.cell (p := ⟨b, off + 2, none⟩) HBL.out).trans HQ.out
      go_wp2_with fail
      go_ret
      exact ⟨by rw [FORM.out]; try (simp; done); try rfl, HB1.out⟩
     ·have hq1 : (((q : Nat) : Int) == 0) = false := by rw [beq_eq_false_iff_ne]; omega
      have FORM := Lib.hid (FORM.out.trans (show _ = false by rw [HD3.out, <- HM.out.2.1, if_pos (by have := HN.out; omega), <- HQE.out, decide_eq_false (by omega)]; try rfl))
      clear FA0 FA1
      go_enter Tryz.func80, Tryz.ntmps80
      go_wp2_with fail
      obtain ⟨w0, ew0⟩ : ∃ w0, w0 = w.alloc (.cells #[.int .i64 11, .string T, .int .u64 (n : Nat), .slice (some ⟨b, off, none⟩) m c] 25) := ⟨_, rfl⟩
      have sz0 : w.heap.size + 1 = w0.heap.size := by rw [ew0]; simp
      rw [<- ew0, sz0]
      rw [<- ew0] at HB BX
      clear ew0 sz0
      have CC2 := Lib.hid (CALL2.out _ HB.out)
      refine (CC2.out).mono ?_
      rintro e w1 ⟨rfl, hb⟩
      have HBa := Lib.hid (Below.alloc HB.out HB.out.size (.cells #[.func (.func 125) #[] #[], .func (.func 125) #[] #[]] 34))
      have HB1 := Lib.hid (Below.trans HBa.out (hb.mono HBa.out.size))
      clear HBa
      have BX1 := Lib.hid ((BX.out.alloc _).below hb)
      clear hb
      obtain ⟨k0, k1, k2, k3⟩ := BX1.out.c
      have hlt0 := BX1.out.lt
      have hlt1 : w.heap.size < w1.heap.size + 1 := by omega
      have qc := (HB1.out.cell (p := ⟨b, off + 2, none⟩) HBL.out).trans HQ.out
      go_wp2_with fail
      go_ret
      exact ⟨by rw [FORM.out]; try (simp; done); try rfl, HB1.out⟩
    have hn2 : (((n : Nat) : Int) == 2) = false := by rw [beq_eq_false_iff_ne]; omega
    by_cases n3 : n = 3
    ·have hn3 : (((n : Nat) : Int) == 3) = true := by rw [beq_iff_eq]; omega
     have FORM := Lib.hid (FORM.out.trans (show _ = true by rw [HD3.out, <- HM.out.2.1, if_neg (by omega), decide_eq_true n3]; try rfl))
     clear n1 n2 n3
     clear FA0 FA1
     go_enter Tryz.func80, Tryz.ntmps80
     go_wp2_with fail
     obtain ⟨w0, ew0⟩ : ∃ w0, w0 = w.alloc (.cells #[.int .i64 11, .string T, .int .u64 (n : Nat), .slice (some ⟨b, off, none⟩) m c] 25) := ⟨_, rfl⟩
     have sz0 : w.heap.size + 1 = w0.heap.size := by rw [ew0]; simp
     rw [<- ew0, sz0]
     rw [<- ew0] at HB BX
     clear ew0 sz0
     have CC2 := Lib.hid (CALL2.out _ HB.out)
     refine (CC2.out).mono ?_
     rintro e w1 ⟨rfl, hb⟩
     have HBa := Lib.hid (Below.alloc HB.out HB.out.size (.cells #[.func (.func 125) #[] #[], .func (.func 125) #[] #[]] 34))
     have HB1 := Lib.hid (Below.trans HBa.out (hb.mono HBa.out.size))
     clear HBa
     have BX1 := Lib.hid ((BX.out.alloc _).below hb)
     clear hb
     obtain ⟨k0, k1, k2, k3⟩ := BX1.out.c
     have hlt0 := BX1.out.lt
     have hlt1 : w.heap.size < w1.heap.size + 1 := by omega
     go_wp2_with fail
     go_ret
     exact ⟨by rw [FORM.out]; try (simp; done); try rfl, HB1.out⟩
    ·have hn3 : (((n : Nat) : Int) == 3) = false := by rw [beq_eq_false_iff_ne]; omega
     have FORM := Lib.hid (FORM.out.trans (show _ = false by rw [HD3.out, <- HM.out.2.1, if_neg (by omega), decide_eq_false (by omega)]; try rfl))
     clear n1 n2 n3
     clear FA0 FA1
     go_enter Tryz.func80, Tryz.ntmps80
     go_wp2_with fail
     obtain ⟨w0, ew0⟩ : ∃ w0, w0 = w.alloc (.cells #[.int .i64 11, .string T, .int .u64 (n : Nat), .slice (some ⟨b, off, none⟩) m c] 25) := ⟨_, rfl⟩
     have sz0 : w.heap.size + 1 = w0.heap.size := by rw [ew0]; simp
     rw [<- ew0, sz0]
     rw [<- ew0] at HB BX
     clear ew0 sz0
     have CC2 := Lib.hid (CALL2.out _ HB.out)
     refine (CC2.out).mono ?_
     rintro e w1 ⟨rfl, hb⟩
     have HBa := Lib.hid (Below.alloc HB.out HB.out.size (.cells #[.func (.func 125) #[] #[], .func (.func 125) #[] #[]] 34))
     have HB1 := Lib.hid (Below.trans HBa.out (hb.mono HBa.out.size))
     clear HBa
     have BX1 := Lib.hid ((BX.out.alloc _).below hb)
     clear hb
     obtain ⟨k0, k1, k2, k3⟩ := BX1.out.c
     have hlt0 := BX1.out.lt
     have hlt1 : w.heap.size < w1.heap.size + 1 := by omega
     go_wp2_with fail
     go_ret
     exact ⟨by rw [FORM.out]; try (simp; done); try rfl, HB1.out⟩
theorem isParameter_any (t : M.Tree) : FnP 85 (M.argB) t := by
 intro v w hv
 have hud := hud9
 have hnot : ∀ (x : Bool) (w : World), (Op.unary .not (.bool x)).run Tryz.prog w = .ok (.bool (!x)) w := fun _ _ => rfl
 have FORM := Lib.hid (M.arg_form t)
 obtain ⟨T, kv, rfl, hT, hok, hk⟩ := id hv
 obtain ⟨A, c, rfl, _⟩ := id hk
 have HV := Lib.hid fun w' (hb : Below w.heap.size w w') => hv.below hb
 have HK := Lib.hid fun w' (hb : Below w.heap.size w w') => hk.below hb
 have HTS := Lib.hid (show T.size <= 140737488351232 from hok.2.2)
 have HT := Lib.hid hT
 obtain ⟨K, eK⟩ : ∃ K, K = t.kind := ⟨_, rfl⟩
 obtain ⟨n, en⟩ : ∃ n, n = t.num := ⟨_, rfl⟩
 obtain ⟨m, em⟩ : ∃ m, m = t.kids.length := ⟨_, rfl⟩
 have HM := Lib.hid (show m = t.kids.length /\ n = t.num /\ K = t.kind from ⟨em, en, eK⟩)
 have hmb : m <= 17592186043904 := by obtain ⟨_, _, e, _, h, _⟩ := hk; rw [em]; exact h
 have hnb : n < 18446744073709551616 := by rw [en]; exact hok.2.1
 rw [<- eK, <- en, <- em] at HV ⊢
 rw [<- em] at HK
 have HB := Lib.hid (balloc8 w (.cells #[.int .i64 K, .string T, .int .u64 (n : Nat), .slice A m c] 25))
 have BX := Lib.hid (Box9.start w ⟨K, T, n, A, m, c⟩)
 obtain ⟨RR, eRR⟩ : ∃ RR, RR = (M.argB) t := ⟨_, rfl⟩
 rw [<- eRR]
 rw [<- eRR] at FORM
 obtain ⟨d0, ed0⟩ : ∃ d, d = decide (t.kind = 13) := ⟨_, rfl⟩
 obtain ⟨d1, ed1⟩ : ∃ d, d = M.hasNameP t := ⟨_, rfl⟩
 obtain ⟨d2, ed2⟩ : ∃ d, d = M.matchB [M.typeB] t.kids := ⟨_, rfl⟩
 rw [<- ed0] at FORM
 rw [<- ed1] at FORM
 rw [<- ed2] at FORM
 have CALL1 := Lib.hid (fun w1 (hb : Below w.heap.size w w1) => (show Calls Tryz.prog 81 #[.agg #[.int .i64 K, .string T, .int .u64 (n : Nat), .slice A m c]] w1 fun e w' => e = .returned (.bool (M.hasNameP t)) /\ Below w1.heap.size w1 w' from hasName_any t _ w1 (HV.out w1 hb)))
 rw [<- ed1] at CALL1
 have CALL2 := Lib.hid (fun w1 (hb : Below w.heap.size w w1) => (show Calls Tryz.prog 79 #[.slice A m c, .slice (some ⟨w1.heap.size, 0, none⟩) 1 1] (w1.alloc (.cells #[.func (.func 80) #[] #[]] 34)) fun e w' => e = .returned (.bool (M.matchB [M.typeB] t.kids)) /\ Below (w1.alloc (.cells #[.func (.func 80) #[] #[]] 34)).heap.size (w1.alloc (.cells #[.func (.func 80) #[] #[]] 34)) w' from match_any [80] [M.typeB] rfl (by simp) (by
    intro i hi hi2
    match i, hi2 with
    | 0, _ => exact isType_any _
    | k + 1, h => exact absurd h (by simp)) (by
    intro i hi
    match i, hi with
    | 0, _ => exact Tryz.call80
    | k + 1, h => exact absurd h (by simp)) w1.heap.size _ _ (KidsV.below (HK.out w1 hb) (balloc8 w1 _)) (alloc_new w1 _ _)))
 rw [<- ed2] at CALL2
 have FORM := Lib.hid FORM.out
 have FA0 := Lib.hid (show (d0 = true -> K = 13) /\ (d0 = false -> (K == 13) = false /\ (K != 13) = true) from by rw [ed0]; rw [<- eK]; exact ⟨fun h => of_decide_eq_true h, fun h => by have h := of_decide_eq_false h; exact ⟨by rw [beq_eq_false_iff_ne]; exact h, by rw [bne_iff_ne]; exact h⟩⟩)
 clear hT hok hk hv eRR ed0 ed1 ed2
 clear eK en em
 cases d0 with
 | false =>
  have g0 := FA0.out.2 rfl
  obtain ⟨gk, gk2⟩ := g0
  clear FA0
  go_enter Tryz.func85, Tryz.ntmps85
  go_wp2_with fail
  go_ret
  exact ⟨by rw [FORM.out]; try (simp; done); try rfl, HB.out⟩
 | true =>
  have g0 := FA0.out.1 rfl
  subst g0
  cases d1 with
  | false =>
   clear FA0
   go_enter Tryz.func85, Tryz.ntmps85
   go_wp2_with fail
   have CC1 := Lib.hid (CALL1.out _ HB.out)
   refine (CC1.out).mono ?_
   rintro e w1 ⟨rfl, hb⟩
   have HB1 := Lib.hid (Below.trans HB.out (hb.mono HB.out.size))
   have BX1 := Lib.hid (BX.out.below hb)
   clear hb
   obtain ⟨k0, k1, k2, k3⟩ := BX1.out.c
   have hlt0 := BX1.out.lt
   have hlt1 : w.heap.size < w1.heap.size + 1 := by omega
   go_wp2_with fail
   go_ret
   exact ⟨by rw [FORM.out]; try (simp; done); try rfl, HB1.out⟩
  | true =>
   clear FA0
   go_enter Tryz.func85, Tryz.ntmps85
   go_wp2_with fail
   have CC1 := Lib.hid (CALL1.out _ HB.out)
   refine (CC1.out).mono ?_
   rintro e w1 ⟨rfl, hb⟩
   have HB1 := Lib.hid (Below.trans HB.out (hb.mono HB.out.size))
   have BX1 := Lib.hid (BX.out.below hb)
   clear hb
   obtain ⟨k0, k1, k2, k3⟩ := BX1.out.c
   have hlt0 := BX1.out.lt
   have hlt1 : w.heap.size < w1.heap.size + 1 := by omega
   go_wp2_with fail
   clear k0 k1 k2 k3 hlt0 hlt1
   have CC2 := Lib.hid (CALL2.out _ HB1.out)
   refine (CC2.out).mono ?_
   rintro e w2 ⟨rfl, hb⟩
   have HBa := Lib.hid (Below.alloc HB1.out HB1.out.size (.cells #[.func (.func 80) #[] #[]] 34))
   have HB2 := Lib.hid (Below.trans HBa.out (hb.mono HBa.out.size))
   clear HBa
   have BX2 := Lib.hid ((BX1.out.alloc _).below hb)
   clear hb
   obtain ⟨k0, k1, k2, k3⟩ := BX2.out.c
   have hlt0 := BX2.out.lt
   have hlt1 : w.heap.size < w2.heap.size + 1 := by omega
   go_wp2_with fail
   go_ret
   exact ⟨by rw [FORM.out]; try (simp; done); try rfl, HB2.out⟩
theorem isBlock_any (t : M.Tree) {p : M.Tree -> Bool} (hp : ∀ u, u ∈ t.kids -> FnP 45 p u) : FnP 83 (M.blockB p) t := by
 intro v w hv
 have hud := hud9
 have hnot : ∀ (x : Bool) (w : World), (Op.unary .not (.bool x)).run Tryz.prog w = .ok (.bool (!x)) w := fun _ _ => rfl
 have FORM := Lib.hid (M.block_form p t)
 obtain ⟨T, kv, rfl, hT, hok, hk⟩ := id hv
 obtain ⟨A, c, rfl, _⟩ := id hk
 have HV := Lib.hid fun w' (hb : Below w.heap.size w w') => hv.below hb
 have HK := Lib.hid fun w' (hb : Below w.heap.size w w') => hk.below hb
 have HTS := Lib.hid (show T.size <= 140737488351232 from hok.2.2)
 have HT := Lib.hid hT
 obtain ⟨K, eK⟩ : ∃ K, K = t.kind := ⟨_, rfl⟩
 obtain ⟨n, en⟩ : ∃ n, n = t.num := ⟨_, rfl⟩
 obtain ⟨m, em⟩ : ∃ m, m = t.kids.length := ⟨_, rfl⟩
 have HM := Lib.hid (show m = t.kids.length /\ n = t.num /\ K = t.kind from ⟨em, en, eK⟩)
 have hmb : m <= 17592186043904 := by obtain ⟨_, _, e, _, h, _⟩ := hk; rw [em]; exact h
 have hnb : n < 18446744073709551616 := by rw [en]; exact hok.2.1
 rw [<- eK, <- en, <- em] at HV ⊢
 rw [<- em] at HK
 have HB := Lib.hid (balloc8 w (.cells #[.int .i64 K, .string T, .int .u64 (n : Nat), .slice A m c] 25))
 have BX := Lib.hid (Box9.start w ⟨K, T, n, A, m, c⟩)
 obtain ⟨RR, eRR⟩ : ∃ RR, RR = (M.blockB p) t := ⟨_, rfl⟩
 rw [<- eRR]
 rw [<- eRR] at FORM
 obtain ⟨d0, ed0⟩ : ∃ d, d = decide (t.kind = 10) := ⟨_, rfl⟩
 obtain ⟨d1, ed1⟩ : ∃ d, d = M.barP t := ⟨_, rfl⟩
 obtain ⟨d2, ed2⟩ : ∃ d, d = t.kids.all p := ⟨_, rfl⟩
 rw [<- ed0] at FORM
 rw [<- ed1] at FORM
 rw [<- ed2] at FORM
 have CALL1 := Lib.hid (fun w1 (hb : Below w.heap.size w w1) => (show Calls Tryz.prog 43 #[.agg #[.int .i64 K, .string T, .int .u64 (n : Nat), .slice A m c]] w1 fun e w' => e = .returned (.bool (M.barP t)) /\ Below w1.heap.size w1 w' from isBare_any t _ w1 (HV.out w1 hb)))
 rw [<- ed1] at CALL1
 have CALL2 := Lib.hid (fun w1 (hb : Below w.heap.size w w1) => (show Calls Tryz.prog 44 #[.slice A m c, .func (.func 45) #[] #[]] w1 fun e w' => e = .returned (.bool (t.kids.all p)) /\ Below w1.heap.size w1 w' from all_any (fun i hi => hp _ (kid_mem9 hi)) Tryz.call45 _ _ (HK.out w1 hb)))
 rw [<- ed2] at CALL2
 have FORM := Lib.hid FORM.out
 have FA0 := Lib.hid (show (d0 = true -> K = 10) /\ (d0 = false -> (K == 10) = false /\ (K != 10) = true) from by rw [ed0]; rw [<- eK]; exact ⟨fun h => of_decide_eq_true h, fun h => by have h := of_decide_eq_false h; exact ⟨by rw [beq_eq_false_iff_ne]; exact h, by rw [bne_iff_ne]; exact h⟩⟩)
 clear hT hok hk hv eRR ed0 ed1 ed2
 clear eK en em
 cases d0 with
 | false =>
  have g0 := FA0.out.2 rfl
  obtain ⟨gk, gk2⟩ := g0
  clear FA0
  go_enter Tryz.func83, Tryz.ntmps83
  go_wp2_with fail
  go_ret
  exact ⟨by rw [FORM.out]; try (simp; done); try rfl, HB.out⟩
 | true =>
  have g0 := FA0.out.1 rfl
  subst g0
  cases d1 with
  | false =>
   clear FA0
   go_enter Tryz.func83, Tryz.ntmps83
   go_wp2_with fail
   have CC1 := Lib.hid (CALL1.out _ HB.out)
   refine (CC1.out).mono ?_
   rintro e w1 ⟨rfl, hb⟩
   have HB1 := Lib.hid (Below.trans HB.out (hb.mono HB.out.size))
   have BX1 := Lib.hid (BX.out.below hb)
   clear hb
   obtain ⟨k0, k1, k2, k3⟩ := BX1.out.c
   have hlt0 := BX1.out.lt
   have hlt1 : w.heap.size < w1.heap.size + 1 := by omega
   go_wp2_with fail
   go_ret
   exact ⟨by rw [FORM.out]; try (simp; done); try rfl, HB1.out⟩
  | true =>
   clear FA0
   go_enter Tryz.func83, Tryz.ntmps83
   go_wp2_with fail
   have CC1 := Lib.hid (CALL1.out _ HB.out)
   refine (CC1.out).mono ?_
   rintro e w1 ⟨rfl, hb⟩
   have HB1 := Lib.hid (Below.trans HB.out (hb.mono HB.out.size))
   have BX1 := Lib.hid (BX.out.below hb)
   clear hb
   obtain ⟨k0, k1, k2, k3⟩ := BX1.out.c
   have hlt0 := BX1.out.lt
   have hlt1 : w.heap.size < w1.heap.size + 1 := by omega
   go_wp2_with fail
   clear k0 k1 k2 k3 hlt0 hlt1
   have CC2 := Lib.hid (CALL2.out _ HB1.out)
   refine (CC2.out).mono ?_
   rintro e w2 ⟨rfl, hb⟩
   have HB2 := Lib.hid (Below.trans HB1.out (hb.mono HB1.out.size))
   have BX2 := Lib.hid (BX1.out.below hb)
   clear hb
   obtain ⟨k0, k1, k2, k3⟩ := BX2.out.c
   have hlt0 := BX2.out.lt
   have hlt1 : w.heap.size < w2.heap.size + 1 := by omega
   go_wp2_with fail
   go_ret
   exact ⟨by rw [FORM.out]; try (simp; done); try rfl, HB2.out⟩
open Go.RowKit
theorem isExprP_14 (t : M.Tree) (f : Nat) (hp : ∀ u, u ∈ t.kids -> FnP 82 (M.exprF f) u) (hkind : t.kind = 14) : FnP 82 (M.exprF (f + 1)) t := by
 intro v w hv
 have hud := hud9
 have hnot : ∀ (x : Bool) (w : World), (Op.unary .not (.bool x)).run Tryz.prog w = .ok (.bool (!x)) w := fun _ _ => rfl
 have FORM := Lib.hid (M.expr_14 f t hkind)
 obtain ⟨T, kv, rfl, hT, hok, hk⟩ := id hv
 obtain ⟨A, c, rfl, _⟩ := id hk
 have HV := Lib.hid fun w' (hb : Below w.heap.size w w') => hv.below hb
 have HK := Lib.hid fun w' (hb : Below w.heap.size w w') => hk.below hb
 have HTS := Lib.hid (show T.size <= 140737488351232 from hok.2.2)
 have HT := Lib.hid hT
 obtain ⟨K, eK⟩ : ∃ K, K = t.kind := ⟨_, rfl⟩
 obtain ⟨n, en⟩ : ∃ n, n = t.num := ⟨_, rfl⟩
 obtain ⟨m, em⟩ : ∃ m, m = t.kids.length := ⟨_, rfl⟩
 have HM := Lib.hid (show m = t.kids.length /\ n = t.num /\ K = t.kind from ⟨em, en, eK⟩)
 have hmb : m <= 17592186043904 := by obtain ⟨_, _, e, _, h, _⟩ := hk; rw [em]; exact h
 have hnb : n < 18446744073709551616 := by rw [en]; exact hok.2.1
 rw [<- eK, <- en, <- em] at HV ⊢
 rw [<- em] at HK
 have HB := Lib.hid (balloc8 w (.cells #[.int .i64 K, .string T, .int .u64 (n : Nat), .slice A m c] 25))
 have BX := Lib.hid (Box9.start w ⟨K, T, n, A, m, c⟩)
 obtain ⟨RR, eRR⟩ : ∃ RR, RR = (M.exprF (f + 1)) t := ⟨_, rfl⟩
 rw [<- eRR]
 rw [<- eRR] at FORM
 have hkk : K = 14 := by rw [eK]; exact hkind
 obtain ⟨d0, ed0⟩ : ∃ d, d = M.numberB t := ⟨_, rfl⟩
 rw [<- ed0] at FORM
 have CALL0 := Lib.hid (fun w1 (hb : Below w.heap.size w w1) => (show Calls Tryz.prog 125 #[.agg #[.int .i64 K, .string T, .int .u64 (n : Nat), .slice A m c]] w1 fun e w' => e = .returned (.bool (M.numberB t)) /\ Below w1.heap.size w1 w' from isNumberP_any t _ w1 (HV.out w1 hb)))
 rw [<- ed0] at CALL0
 have FORM := Lib.hid FORM.out
 clear hT hok hk hv eRR ed0
 subst hkk
 clear eK en em hkind
 try clear hp
 try clear hq
 go_enter Tryz.func82, Tryz.ntmps82
 go_wp2_with fail
 have CC0 := Lib.hid (CALL0.out _ HB.out)
 refine (CC0.out).mono ?_
 rintro e w1 ⟨rfl, hb⟩
 have HB1 := Lib.hid (Below.trans HB.out (hb.mono HB.out.size))
 have BX1 := Lib.hid (BX.out.below hb)
 clear hb
 obtain ⟨k0, k1, k2, k3⟩ := BX1.out.c
 have hlt0 := BX1.out.lt
 have hlt1 : w.heap.size < w1.heap.size + 1 := by omega
 go_wp2_with fail
 go_ret
 exact ⟨by rw [FORM.out]; try (simp; done); try rfl, HB1.out⟩
theorem isExprP_15 (t : M.Tree) (f : Nat) (hp : ∀ u, u ∈ t.kids -> FnP 82 (M.exprF f) u) (hkind : t.kind = 15) : FnP 82 (M.exprF (f + 1)) t := by
 intro v w hv
 have hud := hud9
 have hnot : ∀ (x : Bool) (w : World), (Op.unary .not (.bool x)).run Tryz.prog w = .ok (.bool (!x)) w := fun _ _ => rfl
 have FORM := Lib.hid (M.expr_15 f t hkind)
 obtain ⟨T, kv, rfl, hT, hok, hk⟩ := id hv
 obtain ⟨A, c, rfl, _⟩ := id hk
 have HV := Lib.hid fun w' (hb : Below w.heap.size w w') => hv.below hb
 have HK := Lib.hid fun w' (hb : Below w.heap.size w w') => hk.below hb
 have HTS := Lib.hid (show T.size <= 140737488351232 from hok.2.2)
 have HT := Lib.hid hT
 obtain ⟨K, eK⟩ : ∃ K, K = t.kind := ⟨_, rfl⟩
 obtain ⟨n, en⟩ : ∃ n, n = t.num := ⟨_, rfl⟩
 obtain ⟨m, em⟩ : ∃ m, m = t.kids.length := ⟨_, rfl⟩
 have HM := Lib.hid (show m = t.kids.length /\ n = t.num /\ K = t.kind from ⟨em, en, eK⟩)
 have hmb : m <= 17592186043904 := by obtain ⟨_, _, e, _, h, _⟩ := hk; rw [em]; exact h
 have hnb : n < 18446744073709551616 := by rw [en]; exact hok.2.1
 rw [<- eK, <- en, <- em] at HV ⊢
 rw [<- em] at HK
 have HB := Lib.hid (balloc8 w (.cells #[.int .i64 K, .string T, .int .u64 (n : Nat), .slice A m c] 25))
 have BX := Lib.hid (Box9.start w ⟨K, T, n, A, m, c⟩)
 obtain ⟨RR, eRR⟩ : ∃ RR, RR = (M.exprF (f + 1)) t := ⟨_, rfl⟩
 rw [<- eRR]
 rw [<- eRR] at FORM
 have hkk : K = 15 := by rw [eK]; exact hkind
 obtain ⟨d0, ed0⟩ : ∃ d, d = M.hasNameP t := ⟨_, rfl⟩
 obtain ⟨d1, ed1⟩ : ∃ d, d = decide (t.kids.length = 0) := ⟨_, rfl⟩
 rw [<- ed0] at FORM
 rw [<- ed1] at FORM
 have CALL0 := Lib.hid (fun w1 (hb : Below w.heap.size w w1) => (show Calls Tryz.prog 81 #[.agg #[.int .i64 K, .string T, .int .u64 (n : Nat), .slice A m c]] w1 fun e w' => e = .returned (.bool (M.hasNameP t)) /\ Below w1.heap.size w1 w' from hasName_any t _ w1 (HV.out w1 hb)))
 rw [<- ed0] at CALL0
 have FORM := Lib.hid FORM.out
 have FA1 := Lib.hid (show (d1 = true -> (((m : Nat) : Int) == 0) = true) /\ (d1 = false -> (((m : Nat) : Int) == 0) = false) from by rw [ed1]; rw [<- em]; exact ⟨fun h => by have h := of_decide_eq_true h; rw [beq_iff_eq]; omega, fun h => by have h := of_decide_eq_false h; rw [beq_eq_false_iff_ne]; omega⟩)
 clear hT hok hk hv eRR ed0 ed1
 subst hkk
 clear eK en em hkind
 try clear hp
 try clear hq
 cases d0 with
 | false =>
  clear FA1
  go_enter Tryz.func82, Tryz.ntmps82
  go_wp2_with fail
  have CC0 := Lib.hid (CALL0.out _ HB.out)
  refine (CC0.out).mono ?_
  rintro e w1 ⟨rfl, hb⟩
  have HB1 := Lib.hid (Below.trans HB.out (hb.mono HB.out.size))
  have BX1 := Lib.hid (BX.out.below hb)
  clear hb
  obtain ⟨k0, k1, k2, k3⟩ := BX1.out.c
  have hlt0 := BX1.out.lt
  have hlt1 : w.heap.size < w1.heap.size + 1 := by omega
  go_wp2_with fail
  go_ret
  exact ⟨by rw [FORM.out]; try (simp; done); try rfl, HB1.out⟩
 | true =>
  cases d1 with
  | false =>
   have g1 := FA1.out.2 rfl
   clear FA1
   go_enter Tryz.func82, Tryz.ntmps82
   go_wp2_with fail
   have CC0 := Lib.hid (CALL0.out _ HB.out)
   refine (CC0.out).mono ?_
   rintro e w1 ⟨rfl, hb⟩
   have HB1 := Lib.hid (Below.trans HB.out (hb.mono HB.out.size))
   have BX1 := Lib.hid (BX.out.below hb)
   clear hb
   obtain ⟨k0, k1, k2, k3⟩ := BX1.out.c
   have hlt0 := BX1.out.lt
   have hlt1 : w.heap.size < w1.heap.size + 1 := by omega
   go_wp2_with fail
   go_ret
   exact ⟨by rw [FORM.out]; try (simp; done); try rfl, HB1.out⟩
  | true =>
   have g1 := FA1.out.1 rfl
   clear FA1
   go_enter Tryz.func82, Tryz.ntmps82
   go_wp2_with fail
   have CC0 := Lib.hid (CALL0.out _ HB.out)
   refine (CC0.out).mono ?_
   rintro e w1 ⟨rfl, hb⟩
   have HB1 := Lib.hid (Below.trans HB.out (hb.mono HB.out.size))
   have BX1 := Lib.hid (BX.out.below hb)
   clear hb
   obtain ⟨k0, k1, k2, k3⟩ := BX1.out.c
   have hlt0 := BX1.out.lt
   have hlt1 : w.heap.size < w1.heap.size + 1 := by omega
   go_wp2_with fail
   go_ret
   exact ⟨by rw [FORM.out]; try (simp; done); try rfl, HB1.out⟩
theorem isExprP_16 (t : M.Tree) (f : Nat) (hp : ∀ u, u ∈ t.kids -> FnP 82 (M.exprF f) u) (hkind : t.kind = 16) : FnP 82 (M.exprF (f + 1)) t := by
 intro v w hv
 have hud := hud9
 have hnot : ∀ (x : Bool) (w : World), (Op.unary .not (.bool x)).run Tryz.prog w = .ok (.bool (!x)) w := fun _ _ => rfl
 have FORM := Lib.hid (M.expr_16 f t hkind)
 obtain ⟨T, kv, rfl, hT, hok, hk⟩ := id hv
 obtain ⟨A, c, rfl, _⟩ := id hk
 have HV := Lib.hid fun w' (hb : Below w.heap.size w w') => hv.below hb
 have HK := Lib.hid fun w' (hb : Below w.heap.size w w') => hk.below hb
 have HTS := Lib.hid (show T.size <= 140737488351232 from hok.2.2)
 have HT := Lib.hid hT
 obtain ⟨K, eK⟩ : ∃ K, K = t.kind := ⟨_, rfl⟩
 obtain ⟨n, en⟩ : ∃ n, n = t.num := ⟨_, rfl⟩
 obtain ⟨m, em⟩ : ∃ m, m = t.kids.length := ⟨_, rfl⟩
 have HM := Lib.hid (show m = t.kids.length /\ n = t.num /\ K = t.kind from ⟨em, en, eK⟩)
 have hmb : m <= 17592186043904 := by obtain ⟨_, _, e, _, h, _⟩ := hk; rw [em]; exact h
 have hnb : n < 18446744073709551616 := by rw [en]; exact hok.2.1
 rw [<- eK, <- en, <- em] at HV ⊢
 rw [<- em] at HK
 have HB := Lib.hid (balloc8 w (.cells #[.int .i64 K, .string T, .int .u64 (n : Nat), .slice A m c] 25))
 have BX := Lib.hid (Box9.start w ⟨K, T, n, A, m, c⟩)
 obtain ⟨RR, eRR⟩ : ∃ RR, RR = (M.exprF (f + 1)) t := ⟨_, rfl⟩
 rw [<- eRR]
 rw [<- eRR] at FORM
 have hkk : K = 16 := by rw [eK]; exact hkind
 obtain ⟨d0, ed0⟩ : ∃ d, d = M.funB t.text := ⟨_, rfl⟩
 obtain ⟨d1, ed1⟩ : ∃ d, d = decide (t.num = 0) := ⟨_, rfl⟩
 obtain ⟨d2, ed2⟩ : ∃ d, d = t.kids.all (M.exprF f) := ⟨_, rfl⟩
 rw [<- ed0] at FORM
 rw [<- ed1] at FORM
 rw [<- ed2] at FORM
 have CALL0 := Lib.hid (fun w1 (hb : Below w.heap.size w w1) => (show Calls Tryz.prog 126 #[.string T] w1 fun e w' => e = .returned (.bool (M.funB t.text)) /\ Below w1.heap.size w1 w' by rw [<- HT.out]; exact pisFunction_any T w1 HTS.out))
 rw [<- ed0] at CALL0
 have CALL2 := Lib.hid (fun w1 (hb : Below w.heap.size w w1) => (show Calls Tryz.prog 44 #[.slice A m c, .func (.func 82) #[] #[]] w1 fun e w' => e = .returned (.bool (t.kids.all (M.exprF f))) /\ Below w1.heap.size w1 w' from all_any (fun i hi => hp _ (kid_mem9 hi)) Tryz.call82 _ _ (HK.out w1 hb)))
 rw [<- ed2] at CALL2
 have FORM := Lib.hid FORM.out
 have FA1 := Lib.hid (show (d1 = true -> (((n : Nat) : Int) == 0) = true) /\ (d1 = false -> (((n : Nat) : Int) == 0) = false) from by rw [ed1]; rw [<- en]; exact ⟨fun h => by have h := of_decide_eq_true h; rw [beq_iff_eq]; omega, fun h => by have h := of_decide_eq_false h; rw [beq_eq_false_iff_ne]; omega⟩)
 clear hT hok hk hv eRR ed0 ed1 ed2
 subst hkk
 clear eK en em hkind
 try clear hp
 try clear hq
 cases d0 with
 | false =>
  clear FA1
  go_enter Tryz.func82, Tryz.ntmps82
  go_wp2_with fail
  have CC0 := Lib.hid (CALL0.out _ HB.out)
  refine (CC0.out).mono ?_
  rintro e w1 ⟨rfl, hb⟩
  have HB1 := Lib.hid (Below.trans HB.out (hb.mono HB.out.size))
  have BX1 := Lib.hid (BX.out.below hb)
  clear hb
  obtain ⟨k0, k1, k2, k3⟩ := BX1.out.c
  have hlt0 := BX1.out.lt
  have hlt1 : w.heap.size < w1.heap.size + 1 := by omega
  go_wp2_with fail
  go_ret
  exact ⟨by rw [FORM.out]; try (simp; done); try rfl, HB1.out⟩
 | true =>
  cases d1 with
  | false =>
   have g1 := FA1.out.2 rfl
   clear FA1
   go_enter Tryz.func82, Tryz.ntmps82
   go_wp2_with fail
   have CC0 := Lib.hid (CALL0.out _ HB.out)
   refine (CC0.out).mono ?_
   rintro e w1 ⟨rfl, hb⟩
   have HB1 := Lib.hid (Below.trans HB.out (hb.mono HB.out.size))
   have BX1 := Lib.hid (BX.out.below hb)
   clear hb
   obtain ⟨k0, k1, k2, k3⟩ := BX1.out.c
   have hlt0 := BX1.out.lt
   have hlt1 : w.heap.size < w1.heap.size + 1 := by omega
   go_wp2_with fail
   go_ret
   exact ⟨by rw [FORM.out]; try (simp; done); try rfl, HB1.out⟩
  | true =>
   have g1 := FA1.out.1 rfl
   clear FA1
   go_enter Tryz.func82, Tryz.ntmps82
   go_wp2_with fail
   have CC0 := Lib.hid (CALL0.out _ HB.out)
   refine (CC0.out).mono ?_
   rintro e w1 ⟨rfl, hb⟩
   have HB1 := Lib.hid (Below.trans HB.out (hb.mono HB.out.size))
   have BX1 := Lib.hid (BX.out.below hb)
   clear hb
   obtain ⟨k0, k1, k2, k3⟩ := BX1.out.c
   have hlt0 := BX1.out.lt
   have hlt1 : w.heap.size < w1.heap.size + 1 := by omega
   go_wp2_with fail
   clear k0 k1 k2 k3 hlt0 hlt1
   have CC2 := Lib.hid (CALL2.out _ HB1.out)
   refine (CC2.out).mono ?_
   rintro e w2 ⟨rfl, hb⟩
   have HB2 := Lib.hid (Below.trans HB1.out (hb.mono HB1.out.size))
   have BX2 := Lib.hid (BX1.out.below hb)
   clear hb
   obtain ⟨k0, k1, k2, k3⟩ := BX2.out.c
   have hlt0 := BX2.out.lt
   have hlt1 : w.heap.size < w2.heap.size + 1 := by omega
   go_wp2_with fail
   go_ret
   exact ⟨by rw [FORM.out]; try (simp; done); try rfl, HB2.out⟩
theorem isExprP_17 (t : M.Tree) (f : Nat) (hp : ∀ u, u ∈ t.kids -> FnP 82 (M.exprF f) u) (hkind : t.kind = 17) : FnP 82 (M.exprF (f + 1)) t := by
 intro v w hv
 have hud := hud9
 have hnot : ∀ (x : Bool) (w : World), (Op.unary .not (.bool x)).run Tryz.prog w = .ok (.bool (!x)) w := fun _ _ => rfl
 have FORM := Lib.hid (M.expr_17 f t hkind)
 obtain ⟨T, kv, rfl, hT, hok, hk⟩ := id hv
 obtain ⟨A, c, rfl, _⟩ := id hk
 have HV := Lib.hid fun w' (hb : Below w.heap.size w w') => hv.below hb
 have HK := Lib.hid fun w' (hb : Below w.heap.size w w') => hk.below hb
 have HTS := Lib.hid (show T.size <= 140737488351232 from hok.2.2)
 have HT := Lib.hid hT
 obtain ⟨K, eK⟩ : ∃ K, K = t.kind := ⟨_, rfl⟩
 obtain ⟨n, en⟩ : ∃ n, n = t.num := ⟨_, rfl⟩
 obtain ⟨m, em⟩ : ∃ m, m = t.kids.length := ⟨_, rfl⟩
 have HM := Lib.hid (show m = t.kids.length /\ n = t.num /\ K = t.kind from ⟨em, en, eK⟩)
 have hmb : m <= 17592186043904 := by obtain ⟨_, _, e, _, h, _⟩ := hk; rw [em]; exact h
 have hnb : n < 18446744073709551616 := by rw [en]; exact hok.2.1
 rw [<- eK, <- en, <- em] at HV ⊢
 rw [<- em] at HK
 have HB := Lib.hid (balloc8 w (.cells #[.int .i64 K, .string T, .int .u64 (n : Nat), .slice A m c] 25))
 have BX := Lib.hid (Box9.start w ⟨K, T, n, A, m, c⟩)
 obtain ⟨RR, eRR⟩ : ∃ RR, RR = (M.exprF (f + 1)) t := ⟨_, rfl⟩
 rw [<- eRR]
 rw [<- eRR] at FORM
 have hkk : K = 17 := by rw [eK]; exact hkind
 obtain ⟨d0, ed0⟩ : ∃ d, d = M.barP t := ⟨_, rfl⟩
 obtain ⟨d1, ed1⟩ : ∃ d, d = M.matchB [(M.exprF f), (M.exprF f)] t.kids := ⟨_, rfl⟩
 rw [<- ed0] at FORM
 rw [<- ed1] at FORM
 have CALL0 := Lib.hid (fun w1 (hb : Below w.heap.size w w1) => (show Calls Tryz.prog 43 #[.agg #[.int .i64 K, .string T, .int .u64 (n : Nat), .slice A m c]] w1 fun e w' => e = .returned (.bool (M.barP t)) /\ Below w1.heap.size w1 w' from isBare_any t _ w1 (HV.out w1 hb)))
 rw [<- ed0] at CALL0
 have CALL1 := Lib.hid (fun w1 (hb : Below w.heap.size w w1) => (show Calls Tryz.prog 79 #[.slice A m c, .slice (some ⟨w1.heap.size, 0, none⟩) 2 2] (w1.alloc (.cells #[.func (.func 82) #[] #[], .func (.func 82) #[] #[]] 34)) fun e w' => e = .returned (.bool (M.matchB [(M.exprF f), (M.exprF f)] t.kids)) /\ Below (w1.alloc (.cells #[.func (.func 82) #[] #[], .func (.func 82) #[] #[]] 34)).heap.size (w1.alloc (.cells #[.func (.func 82) #[] #[], .func (.func 82) #[] #[]] 34)) w' from match_any [82, 82] [(M.exprF f), (M.exprF f)] rfl (by simp) (by
    intro i hi hi2
    match i, hi2 with
    | 0, _ => exact hp _ (kid_mem9 hi)
    | 1, _ => exact hp _ (kid_mem9 hi)
    | k + 2, h => exact absurd h (by simp)) (by
    intro i hi
    match i, hi with
    | 0, _ => exact Tryz.call82
    | 1, _ => exact Tryz.call82
    | k + 2, h => exact absurd h (by simp)) w1.heap.size _ _ (KidsV.below (HK.out w1 hb) (balloc8 w1 _)) (alloc_new w1 _ _)))
 rw [<- ed1] at CALL1
 have FORM := Lib.hid FORM.out
 clear hT hok hk hv eRR ed0 ed1
 subst hkk
 clear eK en em hkind
 try clear hp
 try clear hq
 cases d0 with
 | false =>
  go_enter Tryz.func82, Tryz.ntmps82
  go_wp2_with fail
  have CC0 := Lib.hid (CALL0.out _ HB.out)
  refine (CC0.out).mono ?_
  rintro e w1 ⟨rfl, hb⟩
  have HB1 := Lib.hid (Below.trans HB.out (hb.mono HB.out.size))
  have BX1 := Lib.hid (BX.out.below hb)
  clear hb
  obtain ⟨k0, k1, k2, k3⟩ := BX1.out.c
  have hlt0 := BX1.out.lt
  have hlt1 : w.heap.size < w1.heap.size + 1 := by omega
  go_wp2_with fail
  go_ret
  exact ⟨by rw [FORM.out]; try (simp; done); try rfl, HB1.out⟩
 | true =>
  go_enter Tryz.func82, Tryz.ntmps82
  go_wp2_with fail
  have CC0 := Lib.hid (CALL0.out _ HB.out)
  refine (CC0.out).mono ?_
  rintro e w1 ⟨rfl, hb⟩
  have HB1 := Lib.hid (Below.trans HB.out (hb.mono HB.out.size))
  have BX1 := Lib.hid (BX.out.below hb)
  clear hb
  obtain ⟨k0, k1, k2, k3⟩ := BX1.out.c
  have hlt0 := BX1.out.lt
  have hlt1 : w.heap.size < w1.heap.size + 1 := by omega
  go_wp2_with fail
  clear k0 k1 k2 k3 hlt0 hlt1
  have CC1 := Lib.hid (CALL1.out _ HB1.out)
  refine (CC1.out).mono ?_
  rintro e w2 ⟨rfl, hb⟩
  have HBa := Lib.hid (Below.alloc HB1.out HB1.out.size (.cells #[.func (.func 82) #[] #[], .func (.func 82) #[] #[]] 34))
  have HB2 := Lib.hid (Below.trans HBa.out (hb.mono HBa.out.size))
  clear HBa
  have BX2 := Lib.hid ((BX1.out.alloc _).below hb)
  clear hb
  obtain ⟨k0, k1, k2, k3⟩ := BX2.out.c
  have hlt0 := BX2.out.lt
  have hlt1 : w.heap.size < w2.heap.size + 1 := by omega
  go_wp2_with fail
  go_ret
  exact ⟨by rw [FORM.out]; try (simp; done); try rfl, HB2.out⟩
theorem isExprP_18 (t : M.Tree) (f : Nat) (hp : ∀ u, u ∈ t.kids -> FnP 82 (M.exprF f) u) (hkind : t.kind = 18) : FnP 82 (M.exprF (f + 1)) t := by
 intro v w hv
 have hud := hud9
 have hnot : ∀ (x : Bool) (w : World), (Op.unary .not (.bool x)).run Tryz.prog w = .ok (.bool (!x)) w := fun _ _ => rfl
 have FORM := Lib.hid (M.expr_18 f t hkind)
 obtain ⟨T, kv, rfl, hT, hok, hk⟩ := id hv
 obtain ⟨A, c, rfl, _⟩ := id hk
 have HV := Lib.hid fun w' (hb : Below w.heap.size w w') => hv.below hb
 have HK := Lib.hid fun w' (hb : Below w.heap.size w w') => hk.below hb
 have HTS := Lib.hid (show T.size <= 140737488351232 from hok.2.2)
 have HT := Lib.hid hT
 obtain ⟨K, eK⟩ : ∃ K, K = t.kind := ⟨_, rfl⟩
 obtain ⟨n, en⟩ : ∃ n, n = t.num := ⟨_, rfl⟩
 obtain ⟨m, em⟩ : ∃ m, m = t.kids.length := ⟨_, rfl⟩
 have HM := Lib.hid (show m = t.kids.length /\ n = t.num /\ K = t.kind from ⟨em, en, eK⟩)
 have hmb : m <= 17592186043904 := by obtain ⟨_, _, e, _, h, _⟩ := hk; rw [em]; exact h
 have hnb : n < 18446744073709551616 := by rw [en]; exact hok.2.1
 rw [<- eK, <- en, <- em] at HV ⊢
 rw [<- em] at HK
 have HB := Lib.hid (balloc8 w (.cells #[.int .i64 K, .string T, .int .u64 (n : Nat), .slice A m c] 25))
 have BX := Lib.hid (Box9.start w ⟨K, T, n, A, m, c⟩)
 obtain ⟨RR, eRR⟩ : ∃ RR, RR = (M.exprF (f + 1)) t := ⟨_, rfl⟩
 rw [<- eRR]
 rw [<- eRR] at FORM
 have hkk : K = 18 := by rw [eK]; exact hkind
 obtain ⟨d0, ed0⟩ : ∃ d, d = M.barP t := ⟨_, rfl⟩
 obtain ⟨d1, ed1⟩ : ∃ d, d = decide (0 < t.kids.length) := ⟨_, rfl⟩
 obtain ⟨d2, ed2⟩ : ∃ d, d = t.kids.all (M.exprF f) := ⟨_, rfl⟩
 rw [<- ed0] at FORM
 rw [<- ed1] at FORM
 rw [<- ed2] at FORM
 have CALL0 := Lib.hid (fun w1 (hb : Below w.heap.size w w1) => (show Calls Tryz.prog 43 #[.agg #[.int .i64 K, .string T, .int .u64 (n : Nat), .slice A m c]] w1 fun e w' => e = .returned (.bool (M.barP t)) /\ Below w1.heap.size w1 w' from isBare_any t _ w1 (HV.out w1 hb)))
 rw [<- ed0] at CALL0
 have CALL2 := Lib.hid (fun w1 (hb : Below w.heap.size w w1) => (show Calls Tryz.prog 44 #[.slice A m c, .func (.func 82) #[] #[]] w1 fun e w' => e = .returned (.bool (t.kids.all (M.exprF f))) /\ Below w1.heap.size w1 w' from all_any (fun i hi => hp _ (kid_mem9 hi)) Tryz.call82 _ _ (HK.out w1 hb)))
 rw [<- ed2] at CALL2
 have FORM := Lib.hid FORM.out
 have FA1 := Lib.hid (show (d1 = true -> 0 < m) /\ (d1 = false -> ¬ 0 < m) from by rw [ed1]; rw [<- em]; exact ⟨fun h => of_decide_eq_true h, fun h => of_decide_eq_false h⟩)
 clear hT hok hk hv eRR ed0 ed1 ed2
 subst hkk
 clear eK en em hkind
 try clear hp
 try clear hq
 cases d0 with
 | false =>
  clear FA1
  go_enter Tryz.func82, Tryz.ntmps82
  go_wp2_with fail
  have CC0 := Lib.hid (CALL0.out _ HB.out)
  refine (CC0.out).mono ?_
  rintro e w1 ⟨rfl, hb⟩
  have HB1 := Lib.hid (Below.trans HB.out (hb.mono HB.out.size))
  have BX1 := Lib.hid (BX.out.below hb)
  clear hb
  obtain ⟨k0, k1, k2, k3⟩ := BX1.out.c
  have hlt0 := BX1.out.lt
  have hlt1 : w.heap.size < w1.heap.size + 1 := by omega
  go_wp2_with fail
  go_ret
  exact ⟨by rw [FORM.out]; try (simp; done); try rfl, HB1.out⟩
 | true =>
  cases d1 with
  | false =>
   have g1 := FA1.out.2 rfl
   clear FA1
   go_enter Tryz.func82, Tryz.ntmps82
   go_wp2_with fail
   have CC0 := Lib.hid (CALL0.out _ HB.out)
   refine (CC0.out).mono ?_
   rintro e w1 ⟨rfl, hb⟩
   have HB1 := Lib.hid (Below.trans HB.out (hb.mono HB.out.size))
   have BX1 := Lib.hid (BX.out.below hb)
   clear hb
   obtain ⟨k0, k1, k2, k3⟩ := BX1.out.c
   have hlt0 := BX1.out.lt
   have hlt1 : w.heap.size < w1.heap.size + 1 := by omega
   go_wp2_with fail
   go_ret
   exact ⟨by rw [FORM.out]; try (simp; done); try rfl, HB1.out⟩
  | true =>
   have g1 := FA1.out.1 rfl
   clear FA1
   go_enter Tryz.func82, Tryz.ntmps82
   go_wp2_with fail
   have CC0 := Lib.hid (CALL0.out _ HB.out)
   refine (CC0.out).mono ?_
   rintro e w1 ⟨rfl, hb⟩
   have HB1 := Lib.hid (Below.trans HB.out (hb.mono HB.out.size))
   have BX1 := Lib.hid (BX.out.below hb)
   clear hb
   obtain ⟨k0, k1, k2, k3⟩ := BX1.out.c
   have hlt0 := BX1.out.lt
   have hlt1 : w.heap.size < w1.heap.size + 1 := by omega
   go_wp2_with fail
   clear k0 k1 k2 k3 hlt0 hlt1
   have CC2 := Lib.hid (CALL2.out _ HB1.out)
   refine (CC2.out).mono ?_
   rintro e w2 ⟨rfl, hb⟩
   have HB2 := Lib.hid (Below.trans HB1.out (hb.mono HB1.out.size))
   have BX2 := Lib.hid (BX1.out.below hb)
   clear hb
   obtain ⟨k0, k1, k2, k3⟩ := BX2.out.c
   have hlt0 := BX2.out.lt
   have hlt1 : w.heap.size < w2.heap.size + 1 := by omega
   go_wp2_with fail
   go_ret
   exact ⟨by rw [FORM.out]; try (simp; done); try rfl, HB2.out⟩
theorem isExprP_19 (t : M.Tree) (f : Nat) (hp : ∀ u, u ∈ t.kids -> FnP 82 (M.exprF f) u) (hkind : t.kind = 19) : FnP 82 (M.exprF (f + 1)) t := by
 intro v w hv
 have hud := hud9
 have hnot : ∀ (x : Bool) (w : World), (Op.unary .not (.bool x)).run Tryz.prog w = .ok (.bool (!x)) w := fun _ _ => rfl
 have FORM := Lib.hid (M.expr_19 f t hkind)
 obtain ⟨T, kv, rfl, hT, hok, hk⟩ := id hv
 obtain ⟨A, c, rfl, _⟩ := id hk
 have HV := Lib.hid fun w' (hb : Below w.heap.size w w') => hv.below hb
 have HK := Lib.hid fun w' (hb : Below w.heap.size w w') => hk.below hb
 have HTS := Lib.hid (show T.size <= 140737488351232 from hok.2.2)
 have HT := Lib.hid hT
 obtain ⟨K, eK⟩ : ∃ K, K = t.kind := ⟨_, rfl⟩
 obtain ⟨n, en⟩ : ∃ n, n = t.num := ⟨_, rfl⟩
 obtain ⟨m, em⟩ : ∃ m, m = t.kids.length := ⟨_, rfl⟩
 have HM := Lib.hid (show m = t.kids.length /\ n = t.num /\ K = t.kind from ⟨em, en, eK⟩)
 have hmb : m <= 17592186043904 := by obtain ⟨_, _, e, _, h, _⟩ := hk; rw [em]; exact h
 have hnb : n < 18446744073709551616 := by rw [en]; exact hok.2.1
 rw [<- eK, <- en, <- em] at HV ⊢
 rw [<- em] at HK
 have HB := Lib.hid (balloc8 w (.cells #[.int .i64 K, .string T, .int .u64 (n : Nat), .slice A m c] 25))
 have BX := Lib.hid (Box9.start w ⟨K, T, n, A, m, c⟩)
 obtain ⟨RR, eRR⟩ : ∃ RR, RR = (M.exprF (f + 1)) t := ⟨_, rfl⟩
 rw [<- eRR]
 rw [<- eRR] at FORM
 have hkk : K = 19 := by rw [eK]; exact hkind
 obtain ⟨d0, ed0⟩ : ∃ d, d = M.unB t.text := ⟨_, rfl⟩
 obtain ⟨d1, ed1⟩ : ∃ d, d = decide (t.num = 0) := ⟨_, rfl⟩
 obtain ⟨d2, ed2⟩ : ∃ d, d = M.matchB [(M.exprF f)] t.kids := ⟨_, rfl⟩
 rw [<- ed0] at FORM
 rw [<- ed1] at FORM
 rw [<- ed2] at FORM
 have CALL0 := Lib.hid (fun w1 (hb : Below w.heap.size w w1) => (show Calls Tryz.prog 127 #[.string T] w1 fun e w' => e = .returned (.bool (M.unB t.text)) /\ Below w1.heap.size w1 w' by rw [<- HT.out]; exact isUnary_any T w1))
 rw [<- ed0] at CALL0
 have CALL2 := Lib.hid (fun w1 (hb : Below w.heap.size w w1) => (show Calls Tryz.prog 79 #[.slice A m c, .slice (some ⟨w1.heap.size, 0, none⟩) 1 1] (w1.alloc (.cells #[.func (.func 82) #[] #[]] 34)) fun e w' => e = .returned (.bool (M.matchB [(M.exprF f)] t.kids)) /\ Below (w1.alloc (.cells #[.func (.func 82) #[] #[]] 34)).heap.size (w1.alloc (.cells #[.func (.func 82) #[] #[]] 34)) w' from match_any [82] [(M.exprF f)] rfl (by simp) (by
    intro i hi hi2
    match i, hi2 with
    | 0, _ => exact hp _ (kid_mem9 hi)
    | k + 1, h => exact absurd h (by simp)) (by
    intro i hi
    match i, hi with
    | 0, _ => exact Tryz.call82
    | k + 1, h => exact absurd h (by simp)) w1.heap.size _ _ (KidsV.below (HK.out w1 hb) (balloc8 w1 _)) (alloc_new w1 _ _)))
 rw [<- ed2] at CALL2
 have FORM := Lib.hid FORM.out
 have FA1 := Lib.hid (show (d1 = true -> (((n : Nat) : Int) == 0) = true) /\ (d1 = false -> (((n : Nat) : Int) == 0) = false) from by rw [ed1]; rw [<- en]; exact ⟨fun h => by have h := of_decide_eq_true h; rw [beq_iff_eq]; omega, fun h => by have h := of_decide_eq_false h; rw [beq_eq_false_iff_ne]; omega⟩)
 clear hT hok hk hv eRR ed0 ed1 ed2
 subst hkk
 clear eK en em hkind
 try clear hp
 try clear hq
 cases d0 with
 | false =>
  clear FA1
  go_enter Tryz.func82, Tryz.ntmps82
  go_wp2_with fail
  have CC0 := Lib.hid (CALL0.out _ HB.out)
  refine (CC0.out).mono ?_
  rintro e w1 ⟨rfl, hb⟩
  have HB1 := Lib.hid (Below.trans HB.out (hb.mono HB.out.size))
  have BX1 := Lib.hid (BX.out.below hb)
  clear hb
  obtain ⟨k0, k1, k2, k3⟩ := BX1.out.c
  have hlt0 := BX1.out.lt
  have hlt1 : w.heap.size < w1.heap.size + 1 := by omega
  go_wp2_with fail
  go_ret
  exact ⟨by rw [FORM.out]; try (simp; done); try rfl, HB1.out⟩
 | true =>
  cases d1 with
  | false =>
   have g1 := FA1.out.2 rfl
   clear FA1
   go_enter Tryz.func82, Tryz.ntmps82
   go_wp2_with fail
   have CC0 := Lib.hid (CALL0.out _ HB.out)
   refine (CC0.out).mono ?_
   rintro e w1 ⟨rfl, hb⟩
   have HB1 := Lib.hid (Below.trans HB.out (hb.mono HB.out.size))
   have BX1 := Lib.hid (BX.out.below hb)
   clear hb
   obtain ⟨k0, k1, k2, k3⟩ := BX1.out.c
   have hlt0 := BX1.out.lt
   have hlt1 : w.heap.size < w1.heap.size + 1 := by omega
   go_wp2_with fail
   go_ret
   exact ⟨by rw [FORM.out]; try (simp; done); try rfl, HB1.out⟩
  | true =>
   have g1 := FA1.out.1 rfl
   clear FA1
   go_enter Tryz.func82, Tryz.ntmps82
   go_wp2_with fail
   have CC0 := Lib.hid (CALL0.out _ HB.out)
   refine (CC0.out).mono ?_
   rintro e w1 ⟨rfl, hb⟩
   have HB1 := Lib.hid (Below.trans HB.out (hb.mono HB.out.size))
   have BX1 := Lib.hid (BX.out.below hb)
   clear hb
   obtain ⟨k0, k1, k2, k3⟩ := BX1.out.c
   have hlt0 := BX1.out.lt
   have hlt1 : w.heap.size < w1.heap.size + 1 := by omega
   go_wp2_with fail
   clear k0 k1 k2 k3 hlt0 hlt1
   have CC2 := Lib.hid (CALL2.out _ HB1.out)
   refine (CC2.out).mono ?_
   rintro e w2 ⟨rfl, hb⟩
   have HBa := Lib.hid (Below.alloc HB1.out HB1.out.size (.cells #[.func (.func 82) #[] #[]] 34))
   have HB2 := Lib.hid (Below.trans HBa.out (hb.mono HBa.out.size))
   clear HBa
   have BX2 := Lib.hid ((BX1.out.alloc _).below hb)
   clear hb
   obtain ⟨k0, k1, k2, k3⟩ := BX2.out.c
   have hlt0 := BX2.out.lt
   have hlt1 : w.heap.size < w2.heap.size + 1 := by omega
   go_wp2_with fail
   go_ret
   exact ⟨by rw [FORM.out]; try (simp; done); try rfl, HB2.out⟩
theorem isExprP_20 (t : M.Tree) (f : Nat) (hp : ∀ u, u ∈ t.kids -> FnP 82 (M.exprF f) u) (hkind : t.kind = 20) : FnP 82 (M.exprF (f + 1)) t := by
 intro v w hv
 have hud := hud9
 have hnot : ∀ (x : Bool) (w : World), (Op.unary .not (.bool x)).run Tryz.prog w = .ok (.bool (!x)) w := fun _ _ => rfl
 have FORM := Lib.hid (M.expr_20 f t hkind)
 obtain ⟨T, kv, rfl, hT, hok, hk⟩ := id hv
 obtain ⟨A, c, rfl, _⟩ := id hk
 have HV := Lib.hid fun w' (hb : Below w.heap.size w w') => hv.below hb
 have HK := Lib.hid fun w' (hb : Below w.heap.size w w') => hk.below hb
 have HTS := Lib.hid (show T.size <= 140737488351232 from hok.2.2)
 have HT := Lib.hid hT
 obtain ⟨K, eK⟩ : ∃ K, K = t.kind := ⟨_, rfl⟩
 obtain ⟨n, en⟩ : ∃ n, n = t.num := ⟨_, rfl⟩
 obtain ⟨m, em⟩ : ∃ m, m = t.kids.length := ⟨_, rfl⟩
 have HM := Lib.hid (show m = t.kids.length /\ n = t.num /\ K = t.kind from ⟨em, en, eK⟩)
 have hmb : m <= 17592186043904 := by obtain ⟨_, _, e, _, h, _⟩ := hk; rw [em]; exact h
 have hnb : n < 18446744073709551616 := by rw [en]; exact hok.2.1
 rw [<- eK, <- en, <- em] at HV ⊢
 rw [<- em] at HK
 have HB := Lib.hid (balloc8 w (.cells #[.int .i64 K, .string T, .int .u64 (n : Nat), .slice A m c] 25))
 have BX := Lib.hid (Box9.start w ⟨K, T, n, A, m, c⟩)
 obtain ⟨RR, eRR⟩ : ∃ RR, RR = (M.exprF (f + 1)) t := ⟨_, rfl⟩
 rw [<- eRR]
 rw [<- eRR] at FORM
 have hkk : K = 20 := by rw [eK]; exact hkind
 obtain ⟨d0, ed0⟩ : ∃ d, d = M.opB t.text := ⟨_, rfl⟩
 obtain ⟨d1, ed1⟩ : ∃ d, d = decide (t.num = 0) := ⟨_, rfl⟩
 obtain ⟨d2, ed2⟩ : ∃ d, d = M.matchB [(M.exprF f), (M.exprF f)] t.kids := ⟨_, rfl⟩
 rw [<- ed0] at FORM
 rw [<- ed1] at FORM
 rw [<- ed2] at FORM
 have CALL0 := Lib.hid (fun w1 (hb : Below w.heap.size w w1) => (show Calls Tryz.prog 128 #[.string T] w1 fun e w' => e = .returned (.bool (M.opB t.text)) /\ Below w1.heap.size w1 w' by rw [<- HT.out]; exact isBinary_any T w1))
 rw [<- ed0] at CALL0
 have CALL2 := Lib.hid (fun w1 (hb : Below w.heap.size w w1) => (show Calls Tryz.prog 79 #[.slice A m c, .slice (some ⟨w1.heap.size, 0, none⟩) 2 2] (w1.alloc (.cells #[.func (.func 82) #[] #[], .func (.func 82) #[] #[]] 34)) fun e w' => e = .returned (.bool (M.matchB [(M.exprF f), (M.exprF f)] t.kids)) /\ Below (w1.alloc (.cells #[.func (.func 82) #[] #[], .func (.func 82) #[] #[]] 34)).heap.size (w1.alloc (.cells #[.func (.func 82) #[] #[], .func (.func 82) #[] #[]] 34)) w' from match_any [82, 82] [(M.exprF f), (M.exprF f)] rfl (by simp) (by
    intro i hi hi2
    match i, hi2 with
    | 0, _ => exact hp _ (kid_mem9 hi)
    | 1, _ => exact hp _ (kid_mem9 hi)
    | k + 2, h => exact absurd h (by simp)) (by
    intro i hi
    match i, hi with
    | 0, _ => exact Tryz.call82
    | 1, _ => exact Tryz.call82
    | k + 2, h => exact absurd h (by simp)) w1.heap.size _ _ (KidsV.below (HK.out w1 hb) (balloc8 w1 _)) (alloc_new w1 _ _)))
 rw [<- ed2] at CALL2
 have FORM := Lib.hid FORM.out
 have FA1 := Lib.hid (show (d1 = true -> (((n : Nat) : Int) == 0) = true) /\ (d1 = false -> (((n : Nat) : Int) == 0) = false) from by rw [ed1]; rw [<- en]; exact ⟨fun h => by have h := of_decide_eq_true h; rw [beq_iff_eq]; omega, fun h => by have h := of_decide_eq_false h; rw [beq_eq_false_iff_ne]; omega⟩)
 clear hT hok hk hv eRR ed0 ed1 ed2
 subst hkk
 clear eK en em hkind
 try clear hp
 try clear hq
 cases d0 with
 | false =>
  clear FA1
  go_enter Tryz.func82, Tryz.ntmps82
  go_wp2_with fail
  have CC0 := Lib.hid (CALL0.out _ HB.out)
  refine (CC0.out).mono ?_
  rintro e w1 ⟨rfl, hb⟩
  have HB1 := Lib.hid (Below.trans HB.out (hb.mono HB.out.size))
  have BX1 := Lib.hid (BX.out.below hb)
  clear hb
  obtain ⟨k0, k1, k2, k3⟩ := BX1.out.c
  have hlt0 := BX1.out.lt
  have hlt1 : w.heap.size < w1.heap.size + 1 := by omega
  go_wp2_with fail
  go_ret
  exact ⟨by rw [FORM.out]; try (simp; done); try rfl, HB1.out⟩
 | true =>
  cases d1 with
  | false =>
   have g1 := FA1.out.2 rfl
   clear FA1
   go_enter Tryz.func82, Tryz.ntmps82
   go_wp2_with fail
   have CC0 := Lib.hid (CALL0.out _ HB.out)
   refine (CC0.out).mono ?_
   rintro e w1 ⟨rfl, hb⟩
   have HB1 := Lib.hid (Below.trans HB.out (hb.mono HB.out.size))
   have BX1 := Lib.hid (BX.out.below hb)
   clear hb
   obtain ⟨k0, k1, k2, k3⟩ := BX1.out.c
   have hlt0 := BX1.out.lt
   have hlt1 : w.heap.size < w1.heap.size + 1 := by omega
   go_wp2_with fail
   go_ret
   exact ⟨by rw [FORM.out]; try (simp; done); try rfl, HB1.out⟩
  | true =>
   have g1 := FA1.out.1 rfl
   clear FA1
   go_enter Tryz.func82, Tryz.ntmps82
   go_wp2_with fail
   have CC0 := Lib.hid (CALL0.out _ HB.out)
   refine (CC0.out).mono ?_
   rintro e w1 ⟨rfl, hb⟩
   have HB1 := Lib.hid (Below.trans HB.out (hb.mono HB.out.size))
   have BX1 := Lib.hid (BX.out.below hb)
   clear hb
   obtain ⟨k0, k1, k2, k3⟩ := BX1.out.c
   have hlt0 := BX1.out.lt
   have hlt1 : w.heap.size < w1.heap.size + 1 := by omega
   go_wp2_with fail
   clear k0 k1 k2 k3 hlt0 hlt1
   have CC2 := Lib.hid (CALL2.out _ HB1.out)
   refine (CC2.out).mono ?_
   rintro e w2 ⟨rfl, hb⟩
   have HBa := Lib.hid (Below.alloc HB1.out HB1.out.size (.cells #[.func (.func 82) #[] #[], .func (.func 82) #[] #[]] 34))
   have HB2 := Lib.hid (Below.trans HBa.out (hb.mono HBa.out.size))
   clear HBa
   have BX2 := Lib.hid ((BX1.out.alloc _).below hb)
   clear hb
   obtain ⟨k0, k1, k2, k3⟩ := BX2.out.c
   have hlt0 := BX2.out.lt
   have hlt1 : w.heap.size < w2.heap.size + 1 := by omega
   go_wp2_with fail
   go_ret
   exact ⟨by rw [FORM.out]; try (simp; done); try rfl, HB2.out⟩
theorem isExprP_no (t : M.Tree) (f : Nat) (hk : ¬ t.kind = 14 /\ ¬ t.kind = 15 /\ ¬ t.kind = 16 /\ ¬ t.kind = 17 /\ ¬ t.kind = 18 /\ ¬ t.kind = 19 /\ ¬ t.kind = 20) : FnP 82 (M.exprF (f + 1)) t := by
 intro v w hv
 have hud := hud9
 have FORM := Lib.hid (show M.exprF (f + 1) t = false by rw [M.exprF]; simp [hk])
 obtain ⟨T, kv, rfl, -, -, A, c, rfl, -⟩ := hv
 obtain ⟨K, eK⟩ : ∃ K, K = t.kind := ⟨_, rfl⟩
 rw [<- eK] at hk ⊢
 have g14 : (K == 14) = false := by rw [beq_eq_false_iff_ne]; omega
 have g15 : (K == 15) = false := by rw [beq_eq_false_iff_ne]; omega
 have g16 : (K == 16) = false := by rw [beq_eq_false_iff_ne]; omega
 have g17 : (K == 17) = false := by rw [beq_eq_false_iff_ne]; omega
 have g18 : (K == 18) = false := by rw [beq_eq_false_iff_ne]; omega
 have g19 : (K == 19) = false := by rw [beq_eq_false_iff_ne]; omega
 have g20 : (K == 20) = false := by rw [beq_eq_false_iff_ne]; omega
 have HB := Lib.hid (balloc8 w (.cells #[.int .i64 K, .string T, .int .u64 (t.num : Nat), .slice A t.kids.length c] 25))
 clear eK hk
 go_enter Tryz.func82, Tryz.ntmps82
 go_wp2_with fail
 go_ret
 exact ⟨by rw [FORM.out]; try rfl, HB.out⟩
theorem isExprP_any : ∀ (f : Nat) (t : M.Tree), M.count t <= f -> FnP 82 (M.exprF f) t
 | 0, t, h => by have := M.count_pos t; omega
 | f + 1, t, h => by
  have hp : ∀ u, u ∈ t.kids -> FnP 82 (M.exprF f) u := fun u hu => isExprP_any f u (by have := M.count_kid hu; omega)
  by_cases h14 : t.kind = 14
  ·exact isExprP_14 t f hp h14
  by_cases h15 : t.kind = 15
  ·exact isExprP_15 t f hp h15
  by_cases h16 : t.kind = 16
  ·exact isExprP_16 t f hp h16
  by_cases h17 : t.kind = 17
  ·exact isExprP_17 t f hp h17
  by_cases h18 : t.kind = 18
  ·exact isExprP_18 t f hp h18
  by_cases h19 : t.kind = 19
  ·exact isExprP_19 t f hp h19
  by_cases h20 : t.kind = 20
  ·exact isExprP_20 t f hp h20
  exact isExprP_no t f ⟨h14, h15, h16, h17, h18, h19, h20⟩
open Go.RowKit
theorem isItemP_2 (t : M.Tree) (f : Nat) (hp : ∀ u, u ∈ t.kids -> FnP 82 (M.exprF f) u) (hq : ∀ u, u ∈ t.kids -> FnP 83 (M.blockB (M.itemF f)) u) (hkind : t.kind = 2) : FnP 45 (M.itemF (f + 1)) t := by
 intro v w hv
 have hud := hud9
 have hnot : ∀ (x : Bool) (w : World), (Op.unary .not (.bool x)).run Tryz.prog w = .ok (.bool (!x)) w := fun _ _ => rfl
 have FORM := Lib.hid (M.item_2 f t hkind)
 obtain ⟨T, kv, rfl, hT, hok, hk⟩ := id hv
 obtain ⟨A, c, rfl, _⟩ := id hk
 have HV := Lib.hid fun w' (hb : Below w.heap.size w w') => hv.below hb
 have HK := Lib.hid fun w' (hb : Below w.heap.size w w') => hk.below hb
 have HTS := Lib.hid (show T.size <= 140737488351232 from hok.2.2)
 have HT := Lib.hid hT
 obtain ⟨K, eK⟩ : ∃ K, K = t.kind := ⟨_, rfl⟩
 obtain ⟨n, en⟩ : ∃ n, n = t.num := ⟨_, rfl⟩
 obtain ⟨m, em⟩ : ∃ m, m = t.kids.length := ⟨_, rfl⟩
 have HM := Lib.hid (show m = t.kids.length /\ n = t.num /\ K = t.kind from ⟨em, en, eK⟩)
 have hmb : m <= 17592186043904 := by obtain ⟨_, _, e, _, h, _⟩ := hk; rw [em]; exact h
 have hnb : n < 18446744073709551616 := by rw [en]; exact hok.2.1
 rw [<- eK, <- en, <- em] at HV ⊢
 rw [<- em] at HK
 have HB := Lib.hid (balloc8 w (.cells #[.int .i64 K, .string T, .int .u64 (n : Nat), .slice A m c] 25))
 have BX := Lib.hid (Box9.start w ⟨K, T, n, A, m, c⟩)
 obtain ⟨RR, eRR⟩ : ∃ RR, RR = (M.itemF (f + 1)) t := ⟨_, rfl⟩
 rw [<- eRR]
 rw [<- eRR] at FORM
 have hkk : K = 2 := by rw [eK]; exact hkind
 obtain ⟨d0, ed0⟩ : ∃ d, d = M.nameOk t.text := ⟨_, rfl⟩
 obtain ⟨d1, ed1⟩ : ∃ d, d = decide (t.num <= 4294967295) := ⟨_, rfl⟩
 obtain ⟨d2, ed2⟩ : ∃ d, d = M.matchB [M.typeB] t.kids := ⟨_, rfl⟩
 rw [<- ed0] at FORM
 rw [<- ed1] at FORM
 rw [<- ed2] at FORM
 have CALL0 := Lib.hid (fun w1 (hb : Below w.heap.size w w1) => (show Calls Tryz.prog 78 #[.string T] w1 fun e w' => e = .returned (.bool (M.nameOk t.text)) /\ Below w1.heap.size w1 w' by rw [<- HT.out]; exact pisName_any T w1 HTS.out))
 rw [<- ed0] at CALL0
 have CALL2 := Lib.hid (fun w1 (hb : Below w.heap.size w w1) => (show Calls Tryz.prog 79 #[.slice A m c, .slice (some ⟨w1.heap.size, 0, none⟩) 1 1] (w1.alloc (.cells #[.func (.func 80) #[] #[]] 34)) fun e w' => e = .returned (.bool (M.matchB [M.typeB] t.kids)) /\ Below (w1.alloc (.cells #[.func (.func 80) #[] #[]] 34)).heap.size (w1.alloc (.cells #[.func (.func 80) #[] #[]] 34)) w' from match_any [80] [M.typeB] rfl (by simp) (by
    intro i hi hi2
    match i, hi2 with
    | 0, _ => exact isType_any _
    | k + 1, h => exact absurd h (by simp)) (by
    intro i hi
    match i, hi with
    | 0, _ => exact Tryz.call80
    | k + 1, h => exact absurd h (by simp)) w1.heap.size _ _ (KidsV.below (HK.out w1 hb) (balloc8 w1 _)) (alloc_new w1 _ _)))
 rw [<- ed2] at CALL2
 have FORM := Lib.hid FORM.out
 have FA1 := Lib.hid (show (d1 = true -> n <= 4294967295) /\ (d1 = false -> ¬ n <= 4294967295) from by rw [ed1]; rw [<- en]; exact ⟨fun h => of_decide_eq_true h, fun h => of_decide_eq_false h⟩)
 clear hT hok hk hv eRR ed0 ed1 ed2
 subst hkk
 clear eK en em hkind
 try clear hp
 try clear hq
 cases d0 with
 | false =>
  clear FA1
  go_enter Tryz.func45, Tryz.ntmps45
  go_wp2_with fail
  have CC0 := Lib.hid (CALL0.out _ HB.out)
  refine (CC0.out).mono ?_
  rintro e w1 ⟨rfl, hb⟩
  have HB1 := Lib.hid (Below.trans HB.out (hb.mono HB.out.size))
  have BX1 := Lib.hid (BX.out.below hb)
  clear hb
  obtain ⟨k0, k1, k2, k3⟩ := BX1.out.c
  have hlt0 := BX1.out.lt
  have hlt1 : w.heap.size < w1.heap.size + 1 := by omega
  go_wp2_with fail
  go_ret
  exact ⟨by rw [FORM.out]; try (simp; done); try rfl, HB1.out⟩
 | true =>
  cases d1 with
  | false =>
   have g1 := FA1.out.2 rfl
   clear FA1
   go_enter Tryz.func45, Tryz.ntmps45
   go_wp2_with fail
   have CC0 := Lib.hid (CALL0.out _ HB.out)
   refine (CC0.out).mono ?_
   rintro e w1 ⟨rfl, hb⟩
   have HB1 := Lib.hid (Below.trans HB.out (hb.mono HB.out.size))
   have BX1 := Lib.hid (BX.out.below hb)
   clear hb
   obtain ⟨k0, k1, k2, k3⟩ := BX1.out.c
   have hlt0 := BX1.out.lt
   have hlt1 : w.heap.size < w1.heap.size + 1 := by omega
   go_wp2_with fail
   go_ret
   exact ⟨by rw [FORM.out]; try (simp; done); try rfl, HB1.out⟩
  | true =>
   have g1 := FA1.out.1 rfl
   clear FA1
   go_enter Tryz.func45, Tryz.ntmps45
   go_wp2_with fail
   have CC0 := Lib.hid (CALL0.out _ HB.out)
   refine (CC0.out).mono ?_
   rintro e w1 ⟨rfl, hb⟩
   have HB1 := Lib.hid (Below.trans HB.out (hb.mono HB.out.size))
   have BX1 := Lib.hid (BX.out.below hb)
   clear hb
   obtain ⟨k0, k1, k2, k3⟩ := BX1.out.c
   have hlt0 := BX1.out.lt
   have hlt1 : w.heap.size < w1.heap.size + 1 := by omega
   go_wp2_with fail
   clear k0 k1 k2 k3 hlt0 hlt1
   have CC2 := Lib.hid (CALL2.out _ HB1.out)
   refine (CC2.out).mono ?_
   rintro e w2 ⟨rfl, hb⟩
   have HBa := Lib.hid (Below.alloc HB1.out HB1.out.size (.cells #[.func (.func 80) #[] #[]] 34))
   have HB2 := Lib.hid (Below.trans HBa.out (hb.mono HBa.out.size))
   clear HBa
   have BX2 := Lib.hid ((BX1.out.alloc _).below hb)
   clear hb
   obtain ⟨k0, k1, k2, k3⟩ := BX2.out.c
   have hlt0 := BX2.out.lt
   have hlt1 : w.heap.size < w2.heap.size + 1 := by omega
   go_wp2_with fail
   go_ret
   exact ⟨by rw [FORM.out]; try (simp; done); try rfl, HB2.out⟩
theorem isItemP_3 (t : M.Tree) (f : Nat) (hp : ∀ u, u ∈ t.kids -> FnP 82 (M.exprF f) u) (hq : ∀ u, u ∈ t.kids -> FnP 83 (M.blockB (M.itemF f)) u) (hkind : t.kind = 3) : FnP 45 (M.itemF (f + 1)) t := by
 intro v w hv
 have hud := hud9
 have hnot : ∀ (x : Bool) (w : World), (Op.unary .not (.bool x)).run Tryz.prog w = .ok (.bool (!x)) w := fun _ _ => rfl
 have FORM := Lib.hid (M.item_3 f t (.inl hkind))
 obtain ⟨T, kv, rfl, hT, hok, hk⟩ := id hv
 obtain ⟨A, c, rfl, _⟩ := id hk
 have HV := Lib.hid fun w' (hb : Below w.heap.size w w') => hv.below hb
 have HK := Lib.hid fun w' (hb : Below w.heap.size w w') => hk.below hb
 have HTS := Lib.hid (show T.size <= 140737488351232 from hok.2.2)
 have HT := Lib.hid hT
 obtain ⟨K, eK⟩ : ∃ K, K = t.kind := ⟨_, rfl⟩
 obtain ⟨n, en⟩ : ∃ n, n = t.num := ⟨_, rfl⟩
 obtain ⟨m, em⟩ : ∃ m, m = t.kids.length := ⟨_, rfl⟩
 have HM := Lib.hid (show m = t.kids.length /\ n = t.num /\ K = t.kind from ⟨em, en, eK⟩)
 have hmb : m <= 17592186043904 := by obtain ⟨_, _, e, _, h, _⟩ := hk; rw [em]; exact h
 have hnb : n < 18446744073709551616 := by rw [en]; exact hok.2.1
 rw [<- eK, <- en, <- em] at HV ⊢
 rw [<- em] at HK
 have HB := Lib.hid (balloc8 w (.cells #[.int .i64 K, .string T, .int .u64 (n : Nat), .slice A m c] 25))
 have BX := Lib.hid (Box9.start w ⟨K, T, n, A, m, c⟩)
 obtain ⟨RR, eRR⟩ : ∃ RR, RR = (M.itemF (f + 1)) t := ⟨_, rfl⟩
 rw [<- eRR]
 rw [<- eRR] at FORM
 have hkk : K = 3 := by rw [eK]; exact hkind
 obtain ⟨d0, ed0⟩ : ∃ d, d = M.hasNameP t := ⟨_, rfl⟩
 obtain ⟨d1, ed1⟩ : ∃ d, d = M.matchB [(M.exprF f)] t.kids := ⟨_, rfl⟩
 rw [<- ed0] at FORM
 rw [<- ed1] at FORM
 have CALL0 := Lib.hid (fun w1 (hb : Below w.heap.size w w1) => (show Calls Tryz.prog 81 #[.agg #[.int .i64 K, .string T, .int .u64 (n : Nat), .slice A m c]] w1 fun e w' => e = .returned (.bool (M.hasNameP t)) /\ Below w1.heap.size w1 w' from hasName_any t _ w1 (HV.out w1 hb)))
 rw [<- ed0] at CALL0
 have CALL1 := Lib.hid (fun w1 (hb : Below w.heap.size w w1) => (show Calls Tryz.prog 79 #[.slice A m c, .slice (some ⟨w1.heap.size, 0, none⟩) 1 1] (w1.alloc (.cells #[.func (.func 82) #[] #[]] 34)) fun e w' => e = .returned (.bool (M.matchB [(M.exprF f)] t.kids)) /\ Below (w1.alloc (.cells #[.func (.func 82) #[] #[]] 34)).heap.size (w1.alloc (.cells #[.func (.func 82) #[] #[]] 34)) w' from match_any [82] [(M.exprF f)] rfl (by simp) (by
    intro i hi hi2
    match i, hi2 with
    | 0, _ => exact hp _ (kid_mem9 hi)
    | k + 1, h => exact absurd h (by simp)) (by
    intro i hi
    match i, hi with
    | 0, _ => exact Tryz.call82
    | k + 1, h => exact absurd h (by simp)) w1.heap.size _ _ (KidsV.below (HK.out w1 hb) (balloc8 w1 _)) (alloc_new w1 _ _)))
 rw [<- ed1] at CALL1
 have FORM := Lib.hid FORM.out
 clear hT hok hk hv eRR ed0 ed1
 subst hkk
 clear eK en em hkind
 try clear hp
 try clear hq
 cases d0 with
 | false =>
  go_enter Tryz.func45, Tryz.ntmps45
  go_wp2_with fail
  have CC0 := Lib.hid (CALL0.out _ HB.out)
  refine (CC0.out).mono ?_
  rintro e w1 ⟨rfl, hb⟩
  have HB1 := Lib.hid (Below.trans HB.out (hb.mono HB.out.size))
  have BX1 := Lib.hid (BX.out.below hb)
  clear hb
  obtain ⟨k0, k1, k2, k3⟩ := BX1.out.c
  have hlt0 := BX1.out.lt
  have hlt1 : w.heap.size < w1.heap.size + 1 := by omega
  go_wp2_with fail
  go_ret
  exact ⟨by rw [FORM.out]; try (simp; done); try rfl, HB1.out⟩
 | true =>
  go_enter Tryz.func45, Tryz.ntmps45
  go_wp2_with fail
  have CC0 := Lib.hid (CALL0.out _ HB.out)
  refine (CC0.out).mono ?_
  rintro e w1 ⟨rfl, hb⟩
  have HB1 := Lib.hid (Below.trans HB.out (hb.mono HB.out.size))
  have BX1 := Lib.hid (BX.out.below hb)
  clear hb
  obtain ⟨k0, k1, k2, k3⟩ := BX1.out.c
  have hlt0 := BX1.out.lt
  have hlt1 : w.heap.size < w1.heap.size + 1 := by omega
  go_wp2_with fail
  clear k0 k1 k2 k3 hlt0 hlt1
  have CC1 := Lib.hid (CALL1.out _ HB1.out)
  refine (CC1.out).mono ?_
  rintro e w2 ⟨rfl, hb⟩
  have HBa := Lib.hid (Below.alloc HB1.out HB1.out.size (.cells #[.func (.func 82) #[] #[]] 34))
  have HB2 := Lib.hid (Below.trans HBa.out (hb.mono HBa.out.size))
  clear HBa
  have BX2 := Lib.hid ((BX1.out.alloc _).below hb)
  clear hb
  obtain ⟨k0, k1, k2, k3⟩ := BX2.out.c
  have hlt0 := BX2.out.lt
  have hlt1 : w.heap.size < w2.heap.size + 1 := by omega
  go_wp2_with fail
  go_ret
  exact ⟨by rw [FORM.out]; try (simp; done); try rfl, HB2.out⟩
theorem isItemP_4 (t : M.Tree) (f : Nat) (hp : ∀ u, u ∈ t.kids -> FnP 82 (M.exprF f) u) (hq : ∀ u, u ∈ t.kids -> FnP 83 (M.blockB (M.itemF f)) u) (hkind : t.kind = 4) : FnP 45 (M.itemF (f + 1)) t := by
 intro v w hv
 have hud := hud9
 have hnot : ∀ (x : Bool) (w : World), (Op.unary .not (.bool x)).run Tryz.prog w = .ok (.bool (!x)) w := fun _ _ => rfl
 have FORM := Lib.hid (M.item_3 f t (.inr hkind))
 obtain ⟨T, kv, rfl, hT, hok, hk⟩ := id hv
 obtain ⟨A, c, rfl, _⟩ := id hk
 have HV := Lib.hid fun w' (hb : Below w.heap.size w w') => hv.below hb
 have HK := Lib.hid fun w' (hb : Below w.heap.size w w') => hk.below hb
 have HTS := Lib.hid (show T.size <= 140737488351232 from hok.2.2)
 have HT := Lib.hid hT
 obtain ⟨K, eK⟩ : ∃ K, K = t.kind := ⟨_, rfl⟩
 obtain ⟨n, en⟩ : ∃ n, n = t.num := ⟨_, rfl⟩
 obtain ⟨m, em⟩ : ∃ m, m = t.kids.length := ⟨_, rfl⟩
 have HM := Lib.hid (show m = t.kids.length /\ n = t.num /\ K = t.kind from ⟨em, en, eK⟩)
 have hmb : m <= 17592186043904 := by obtain ⟨_, _, e, _, h, _⟩ := hk; rw [em]; exact h
 have hnb : n < 18446744073709551616 := by rw [en]; exact hok.2.1
 rw [<- eK, <- en, <- em] at HV ⊢
 rw [<- em] at HK
 have HB := Lib.hid (balloc8 w (.cells #[.int .i64 K, .string T, .int .u64 (n : Nat), .slice A m c] 25))
 have BX := Lib.hid (Box9.start w ⟨K, T, n, A, m, c⟩)
 obtain ⟨RR, eRR⟩ : ∃ RR, RR = (M.itemF (f + 1)) t := ⟨_, rfl⟩
 rw [<- eRR]
 rw [<- eRR] at FORM
 have hkk : K = 4 := by rw [eK]; exact hkind
 obtain ⟨d0, ed0⟩ : ∃ d, d = M.hasNameP t := ⟨_, rfl⟩
 obtain ⟨d1, ed1⟩ : ∃ d, d = M.matchB [(M.exprF f)] t.kids := ⟨_, rfl⟩
 rw [<- ed0] at FORM
 rw [<- ed1] at FORM
 have CALL0 := Lib.hid (fun w1 (hb : Below w.heap.size w w1) => (show Calls Tryz.prog 81 #[.agg #[.int .i64 K, .string T, .int .u64 (n : Nat), .slice A m c]] w1 fun e w' => e = .returned (.bool (M.hasNameP t)) /\ Below w1.heap.size w1 w' from hasName_any t _ w1 (HV.out w1 hb)))
 rw [<- ed0] at CALL0
 have CALL1 := Lib.hid (fun w1 (hb : Below w.heap.size w w1) => (show Calls Tryz.prog 79 #[.slice A m c, .slice (some ⟨w1.heap.size, 0, none⟩) 1 1] (w1.alloc (.cells #[.func (.func 82) #[] #[]] 34)) fun e w' => e = .returned (.bool (M.matchB [(M.exprF f)] t.kids)) /\ Below (w1.alloc (.cells #[.func (.func 82) #[] #[]] 34)).heap.size (w1.alloc (.cells #[.func (.func 82) #[] #[]] 34)) w' from match_any [82] [(M.exprF f)] rfl (by simp) (by
    intro i hi hi2
    match i, hi2 with
    | 0, _ => exact hp _ (kid_mem9 hi)
    | k + 1, h => exact absurd h (by simp)) (by
    intro i hi
    match i, hi with
    | 0, _ => exact Tryz.call82
    | k + 1, h => exact absurd h (by simp)) w1.heap.size _ _ (KidsV.below (HK.out w1 hb) (balloc8 w1 _)) (alloc_new w1 _ _)))
 rw [<- ed1] at CALL1
 have FORM := Lib.hid FORM.out
 clear hT hok hk hv eRR ed0 ed1
 subst hkk
 clear eK en em hkind
 try clear hp
 try clear hq
 cases d0 with
 | false =>
  go_enter Tryz.func45, Tryz.ntmps45
  go_wp2_with fail
  have CC0 := Lib.hid (CALL0.out _ HB.out)
  refine (CC0.out).mono ?_
  rintro e w1 ⟨rfl, hb⟩
  have HB1 := Lib.hid (Below.trans HB.out (hb.mono HB.out.size))
  have BX1 := Lib.hid (BX.out.below hb)
  clear hb
  obtain ⟨k0, k1, k2, k3⟩ := BX1.out.c
  have hlt0 := BX1.out.lt
  have hlt1 : w.heap.size < w1.heap.size + 1 := by omega
  go_wp2_with fail
  go_ret
  exact ⟨by rw [FORM.out]; try (simp; done); try rfl, HB1.out⟩
 | true =>
  go_enter Tryz.func45, Tryz.ntmps45
  go_wp2_with fail
  have CC0 := Lib.hid (CALL0.out _ HB.out)
  refine (CC0.out).mono ?_
  rintro e w1 ⟨rfl, hb⟩
  have HB1 := Lib.hid (Below.trans HB.out (hb.mono HB.out.size))
  have BX1 := Lib.hid (BX.out.below hb)
  clear hb
  obtain ⟨k0, k1, k2, k3⟩ := BX1.out.c
  have hlt0 := BX1.out.lt
  have hlt1 : w.heap.size < w1.heap.size + 1 := by omega
  go_wp2_with fail
  clear k0 k1 k2 k3 hlt0 hlt1
  have CC1 := Lib.hid (CALL1.out _ HB1.out)
  refine (CC1.out).mono ?_
  rintro e w2 ⟨rfl, hb⟩
  have HBa := Lib.hid (Below.alloc HB1.out HB1.out.size (.cells #[.func (.func 82) #[] #[]] 34))
  have HB2 := Lib.hid (Below.trans HBa.out (hb.mono HBa.out.size))
  clear HBa
  have BX2 := Lib.hid ((BX1.out.alloc _).below hb)
  clear hb
  obtain ⟨k0, k1, k2, k3⟩ := BX2.out.c
  have hlt0 := BX2.out.lt
  have hlt1 : w.heap.size < w2.heap.size + 1 := by omega
  go_wp2_with fail
  go_ret
  exact ⟨by rw [FORM.out]; try (simp; done); try rfl, HB2.out⟩
theorem isItemP_5 (t : M.Tree) (f : Nat) (hp : ∀ u, u ∈ t.kids -> FnP 82 (M.exprF f) u) (hq : ∀ u, u ∈ t.kids -> FnP 83 (M.blockB (M.itemF f)) u) (hkind : t.kind = 5) : FnP 45 (M.itemF (f + 1)) t := by
 intro v w hv
 have hud := hud9
 have hnot : ∀ (x : Bool) (w : World), (Op.unary .not (.bool x)).run Tryz.prog w = .ok (.bool (!x)) w := fun _ _ => rfl
 have FORM := Lib.hid (M.item_5 f t hkind)
 obtain ⟨T, kv, rfl, hT, hok, hk⟩ := id hv
 obtain ⟨A, c, rfl, _⟩ := id hk
 have HV := Lib.hid fun w' (hb : Below w.heap.size w w') => hv.below hb
 have HK := Lib.hid fun w' (hb : Below w.heap.size w w') => hk.below hb
 have HTS := Lib.hid (show T.size <= 140737488351232 from hok.2.2)
 have HT := Lib.hid hT
 obtain ⟨K, eK⟩ : ∃ K, K = t.kind := ⟨_, rfl⟩
 obtain ⟨n, en⟩ : ∃ n, n = t.num := ⟨_, rfl⟩
 obtain ⟨m, em⟩ : ∃ m, m = t.kids.length := ⟨_, rfl⟩
 have HM := Lib.hid (show m = t.kids.length /\ n = t.num /\ K = t.kind from ⟨em, en, eK⟩)
 have hmb : m <= 17592186043904 := by obtain ⟨_, _, e, _, h, _⟩ := hk; rw [em]; exact h
 have hnb : n < 18446744073709551616 := by rw [en]; exact hok.2.1
 rw [<- eK, <- en, <- em] at HV ⊢
 rw [<- em] at HK
 have HB := Lib.hid (balloc8 w (.cells #[.int .i64 K, .string T, .int .u64 (n : Nat), .slice A m c] 25))
 have BX := Lib.hid (Box9.start w ⟨K, T, n, A, m, c⟩)
 obtain ⟨RR, eRR⟩ : ∃ RR, RR = (M.itemF (f + 1)) t := ⟨_, rfl⟩
 rw [<- eRR]
 rw [<- eRR] at FORM
 have hkk : K = 5 := by rw [eK]; exact hkind
 obtain ⟨d0, ed0⟩ : ∃ d, d = M.hasNameP t := ⟨_, rfl⟩
 obtain ⟨d1, ed1⟩ : ∃ d, d = M.matchB [(M.exprF f), (M.exprF f)] t.kids := ⟨_, rfl⟩
 rw [<- ed0] at FORM
 rw [<- ed1] at FORM
 have CALL0 := Lib.hid (fun w1 (hb : Below w.heap.size w w1) => (show Calls Tryz.prog 81 #[.agg #[.int .i64 K, .string T, .int .u64 (n : Nat), .slice A m c]] w1 fun e w' => e = .returned (.bool (M.hasNameP t)) /\ Below w1.heap.size w1 w' from hasName_any t _ w1 (HV.out w1 hb)))
 rw [<- ed0] at CALL0
 have CALL1 := Lib.hid (fun w1 (hb : Below w.heap.size w w1) => (show Calls Tryz.prog 79 #[.slice A m c, .slice (some ⟨w1.heap.size, 0, none⟩) 2 2] (w1.alloc (.cells #[.func (.func 82) #[] #[], .func (.func 82) #[] #[]] 34)) fun e w' => e = .returned (.bool (M.matchB [(M.exprF f), (M.exprF f)] t.kids)) /\ Below (w1.alloc (.cells #[.func (.func 82) #[] #[], .func (.func 82) #[] #[]] 34)).heap.size (w1.alloc (.cells #[.func (.func 82) #[] #[], .func (.func 82) #[] #[]] 34)) w' from match_any [82, 82] [(M.exprF f), (M.exprF f)] rfl (by simp) (by
    intro i hi hi2
    match i, hi2 with
    | 0, _ => exact hp _ (kid_mem9 hi)
    | 1, _ => exact hp _ (kid_mem9 hi)
    | k + 2, h => exact absurd h (by simp)) (by
    intro i hi
    match i, hi with
    | 0, _ => exact Tryz.call82
    | 1, _ => exact Tryz.call82
    | k + 2, h => exact absurd h (by simp)) w1.heap.size _ _ (KidsV.below (HK.out w1 hb) (balloc8 w1 _)) (alloc_new w1 _ _)))
 rw [<- ed1] at CALL1
 have FORM := Lib.hid FORM.out
 clear hT hok hk hv eRR ed0 ed1
 subst hkk
 clear eK en em hkind
 try clear hp
 try clear hq
 cases d0 with
 | false =>
  go_enter Tryz.func45, Tryz.ntmps45
  go_wp2_with fail
  have CC0 := Lib.hid (CALL0.out _ HB.out)
  refine (CC0.out).mono ?_
  rintro e w1 ⟨rfl, hb⟩
  have HB1 := Lib.hid (Below.trans HB.out (hb.mono HB.out.size))
  have BX1 := Lib.hid (BX.out.below hb)
  clear hb
  obtain ⟨k0, k1, k2, k3⟩ := BX1.out.c
  have hlt0 := BX1.out.lt
  have hlt1 : w.heap.size < w1.heap.size + 1 := by omega
  go_wp2_with fail
  go_ret
  exact ⟨by rw [FORM.out]; try (simp; done); try rfl, HB1.out⟩
 | true =>
  go_enter Tryz.func45, Tryz.ntmps45
  go_wp2_with fail
  have CC0 := Lib.hid (CALL0.out _ HB.out)
  refine (CC0.out).mono ?_
  rintro e w1 ⟨rfl, hb⟩
  have HB1 := Lib.hid (Below.trans HB.out (hb.mono HB.out.size))
  have BX1 := Lib.hid (BX.out.below hb)
  clear hb
  obtain ⟨k0, k1, k2, k3⟩ := BX1.out.c
  have hlt0 := BX1.out.lt
  have hlt1 : w.heap.size < w1.heap.size + 1 := by omega
  go_wp2_with fail
  clear k0 k1 k2 k3 hlt0 hlt1
  have CC1 := Lib.hid (CALL1.out _ HB1.out)
  refine (CC1.out).mono ?_
  rintro e w2 ⟨rfl, hb⟩
  have HBa := Lib.hid (Below.alloc HB1.out HB1.out.size (.cells #[.func (.func 82) #[] #[], .func (.func 82) #[] #[]] 34))
  have HB2 := Lib.hid (Below.trans HBa.out (hb.mono HBa.out.size))
  clear HBa
  have BX2 := Lib.hid ((BX1.out.alloc _).below hb)
  clear hb
  obtain ⟨k0, k1, k2, k3⟩ := BX2.out.c
  have hlt0 := BX2.out.lt
  have hlt1 : w.heap.size < w2.heap.size + 1 := by omega
  go_wp2_with fail
  go_ret
  exact ⟨by rw [FORM.out]; try (simp; done); try rfl, HB2.out⟩
theorem isItemP_6 (t : M.Tree) (f : Nat) (hp : ∀ u, u ∈ t.kids -> FnP 82 (M.exprF f) u) (hq : ∀ u, u ∈ t.kids -> FnP 83 (M.blockB (M.itemF f)) u) (hkind : t.kind = 6) : FnP 45 (M.itemF (f + 1)) t := by
 intro v w hv
 have hud := hud9
 have hnot : ∀ (x : Bool) (w : World), (Op.unary .not (.bool x)).run Tryz.prog w = .ok (.bool (!x)) w := fun _ _ => rfl
 have FORM := Lib.hid (M.item_6 f t hkind)
 obtain ⟨T, kv, rfl, hT, hok, hk⟩ := id hv
 obtain ⟨A, c, rfl, _⟩ := id hk
 have HV := Lib.hid fun w' (hb : Below w.heap.size w w') => hv.below hb
 have HK := Lib.hid fun w' (hb : Below w.heap.size w w') => hk.below hb
 have HTS := Lib.hid (show T.size <= 140737488351232 from hok.2.2)
 have HT := Lib.hid hT
 obtain ⟨K, eK⟩ : ∃ K, K = t.kind := ⟨_, rfl⟩
 obtain ⟨n, en⟩ : ∃ n, n = t.num := ⟨_, rfl⟩
 obtain ⟨m, em⟩ : ∃ m, m = t.kids.length := ⟨_, rfl⟩
 have HM := Lib.hid (show m = t.kids.length /\ n = t.num /\ K = t.kind from ⟨em, en, eK⟩)
 have hmb : m <= 17592186043904 := by obtain ⟨_, _, e, _, h, _⟩ := hk; rw [em]; exact h
 have hnb : n < 18446744073709551616 := by rw [en]; exact hok.2.1
 rw [<- eK, <- en, <- em] at HV ⊢
 rw [<- em] at HK
 have HB := Lib.hid (balloc8 w (.cells #[.int .i64 K, .string T, .int .u64 (n : Nat), .slice A m c] 25))
 have BX := Lib.hid (Box9.start w ⟨K, T, n, A, m, c⟩)
 obtain ⟨RR, eRR⟩ : ∃ RR, RR = (M.itemF (f + 1)) t := ⟨_, rfl⟩
 rw [<- eRR]
 rw [<- eRR] at FORM
 have hkk : K = 6 := by rw [eK]; exact hkind
 obtain ⟨d0, ed0⟩ : ∃ d, d = M.barP t := ⟨_, rfl⟩
 obtain ⟨d1, ed1⟩ : ∃ d, d = M.matchB [(M.exprF f), (M.blockB (M.itemF f)), (M.blockB (M.itemF f))] t.kids := ⟨_, rfl⟩
 rw [<- ed0] at FORM
 rw [<- ed1] at FORM
 have CALL0 := Lib.hid (fun w1 (hb : Below w.heap.size w w1) => (show Calls Tryz.prog 43 #[.agg #[.int .i64 K, .string T, .int .u64 (n : Nat), .slice A m c]] w1 fun e w' => e = .returned (.bool (M.barP t)) /\ Below w1.heap.size w1 w' from isBare_any t _ w1 (HV.out w1 hb)))
 rw [<- ed0] at CALL0
 have CALL1 := Lib.hid (fun w1 (hb : Below w.heap.size w w1) => (show Calls Tryz.prog 79 #[.slice A m c, .slice (some ⟨w1.heap.size, 0, none⟩) 3 3] (w1.alloc (.cells #[.func (.func 82) #[] #[], .func (.func 83) #[] #[], .func (.func 83) #[] #[]] 34)) fun e w' => e = .returned (.bool (M.matchB [(M.exprF f), (M.blockB (M.itemF f)), (M.blockB (M.itemF f))] t.kids)) /\ Below (w1.alloc (.cells #[.func (.func 82) #[] #[], .func (.func 83) #[] #[], .func (.func 83) #[] #[]] 34)).heap.size (w1.alloc (.cells #[.func (.func 82) #[] #[], .func (.func 83) #[] #[], .func (.func 83) #[] #[]] 34)) w' from match_any [82, 83, 83] [(M.exprF f), (M.blockB (M.itemF f)), (M.blockB (M.itemF f))] rfl (by simp) (by
    intro i hi hi2
    match i, hi2 with
    | 0, _ => exact hp _ (kid_mem9 hi)
    | 1, _ => exact hq _ (kid_mem9 hi)
    | 2, _ => exact hq _ (kid_mem9 hi)
    | k + 3, h => exact absurd h (by simp)) (by
    intro i hi
    match i, hi with
    | 0, _ => exact Tryz.call82
    | 1, _ => exact Tryz.call83
    | 2, _ => exact Tryz.call83
    | k + 3, h => exact absurd h (by simp)) w1.heap.size _ _ (KidsV.below (HK.out w1 hb) (balloc8 w1 _)) (alloc_new w1 _ _)))
 rw [<- ed1] at CALL1
 have FORM := Lib.hid FORM.out
 clear hT hok hk hv eRR ed0 ed1
 subst hkk
 clear eK en em hkind
 try clear hp
 try clear hq
 cases d0 with
 | false =>
  go_enter Tryz.func45, Tryz.ntmps45
  go_wp2_with fail
  have CC0 := Lib.hid (CALL0.out _ HB.out)
  refine (CC0.out).mono ?_
  rintro e w1 ⟨rfl, hb⟩
  have HB1 := Lib.hid (Below.trans HB.out (hb.mono HB.out.size))
  have BX1 := Lib.hid (BX.out.below hb)
  clear hb
  obtain ⟨k0, k1, k2, k3⟩ := BX1.out.c
  have hlt0 := BX1.out.lt
  have hlt1 : w.heap.size < w1.heap.size + 1 := by omega
  go_wp2_with fail
  go_ret
  exact ⟨by rw [FORM.out]; try (simp; done); try rfl, HB1.out⟩
 | true =>
  go_enter Tryz.func45, Tryz.ntmps45
  go_wp2_with fail
  have CC0 := Lib.hid (CALL0.out _ HB.out)
  refine (CC0.out).mono ?_
  rintro e w1 ⟨rfl, hb⟩
  have HB1 := Lib.hid (Below.trans HB.out (hb.mono HB.out.size))
  have BX1 := Lib.hid (BX.out.below hb)
  clear hb
  obtain ⟨k0, k1, k2, k3⟩ := BX1.out.c
  have hlt0 := BX1.out.lt
  have hlt1 : w.heap.size < w1.heap.size + 1 := by omega
  go_wp2_with fail
  clear k0 k1 k2 k3 hlt0 hlt1
  have CC1 := Lib.hid (CALL1.out _ HB1.out)
  refine (CC1.out).mono ?_
  rintro e w2 ⟨rfl, hb⟩
  have HBa := Lib.hid (Below.alloc HB1.out HB1.out.size (.cells #[.func (.func 82) #[] #[], .func (.func 83) #[] #[], .func (.func 83) #[] #[]] 34))
  have HB2 := Lib.hid (Below.trans HBa.out (hb.mono HBa.out.size))
  clear HBa
  have BX2 := Lib.hid ((BX1.out.alloc _).below hb)
  clear hb
  obtain ⟨k0, k1, k2, k3⟩ := BX2.out.c
  have hlt0 := BX2.out.lt
  have hlt1 : w.heap.size < w2.heap.size + 1 := by omega
  go_wp2_with fail
  go_ret
  exact ⟨by rw [FORM.out]; try (simp; done); try rfl, HB2.out⟩
theorem isItemP_7 (t : M.Tree) (f : Nat) (hp : ∀ u, u ∈ t.kids -> FnP 82 (M.exprF f) u) (hq : ∀ u, u ∈ t.kids -> FnP 83 (M.blockB (M.itemF f)) u) (hkind : t.kind = 7) : FnP 45 (M.itemF (f + 1)) t := by
 intro v w hv
 have hud := hud9
 have hnot : ∀ (x : Bool) (w : World), (Op.unary .not (.bool x)).run Tryz.prog w = .ok (.bool (!x)) w := fun _ _ => rfl
 have FORM := Lib.hid (M.item_7 f t hkind)
 obtain ⟨T, kv, rfl, hT, hok, hk⟩ := id hv
 obtain ⟨A, c, rfl, _⟩ := id hk
 have HV := Lib.hid fun w' (hb : Below w.heap.size w w') => hv.below hb
 have HK := Lib.hid fun w' (hb : Below w.heap.size w w') => hk.below hb
 have HTS := Lib.hid (show T.size <= 140737488351232 from hok.2.2)
 have HT := Lib.hid hT
 obtain ⟨K, eK⟩ : ∃ K, K = t.kind := ⟨_, rfl⟩
 obtain ⟨n, en⟩ : ∃ n, n = t.num := ⟨_, rfl⟩
 obtain ⟨m, em⟩ : ∃ m, m = t.kids.length := ⟨_, rfl⟩
 have HM := Lib.hid (show m = t.kids.length /\ n = t.num /\ K = t.kind from ⟨em, en, eK⟩)
 have hmb : m <= 17592186043904 := by obtain ⟨_, _, e, _, h, _⟩ := hk; rw [em]; exact h
 have hnb : n < 18446744073709551616 := by rw [en]; exact hok.2.1
 rw [<- eK, <- en, <- em] at HV ⊢
 rw [<- em] at HK
 have HB := Lib.hid (balloc8 w (.cells #[.int .i64 K, .string T, .int .u64 (n : Nat), .slice A m c] 25))
 have BX := Lib.hid (Box9.start w ⟨K, T, n, A, m, c⟩)
 obtain ⟨RR, eRR⟩ : ∃ RR, RR = (M.itemF (f + 1)) t := ⟨_, rfl⟩
 rw [<- eRR]
 rw [<- eRR] at FORM
 have hkk : K = 7 := by rw [eK]; exact hkind
 obtain ⟨d0, ed0⟩ : ∃ d, d = M.hasNameP t := ⟨_, rfl⟩
 obtain ⟨d1, ed1⟩ : ∃ d, d = M.matchB [(M.exprF f), (M.exprF f), (M.blockB (M.itemF f))] t.kids := ⟨_, rfl⟩
 rw [<- ed0] at FORM
 rw [<- ed1] at FORM
 have CALL0 := Lib.hid (fun w1 (hb : Below w.heap.size w w1) => (show Calls Tryz.prog 81 #[.agg #[.int .i64 K, .string T, .int .u64 (n : Nat), .slice A m c]] w1 fun e w' => e = .returned (.bool (M.hasNameP t)) /\ Below w1.heap.size w1 w' from hasName_any t _ w1 (HV.out w1 hb)))
 rw [<- ed0] at CALL0
 have CALL1 := Lib.hid (fun w1 (hb : Below w.heap.size w w1) => (show Calls Tryz.prog 79 #[.slice A m c, .slice (some ⟨w1.heap.size, 0, none⟩) 3 3] (w1.alloc (.cells #[.func (.func 82) #[] #[], .func (.func 82) #[] #[], .func (.func 83) #[] #[]] 34)) fun e w' => e = .returned (.bool (M.matchB [(M.exprF f), (M.exprF f), (M.blockB (M.itemF f))] t.kids)) /\ Below (w1.alloc (.cells #[.func (.func 82) #[] #[], .func (.func 82) #[] #[], .func (.func 83) #[] #[]] 34)).heap.size (w1.alloc (.cells #[.func (.func 82) #[] #[], .func (.func 82) #[] #[], .func (.func 83) #[] #[]] 34)) w' from match_any [82, 82, 83] [(M.exprF f), (M.exprF f), (M.blockB (M.itemF f))] rfl (by simp) (by
    intro i hi hi2
    match i, hi2 with
    | 0, _ => exact hp _ (kid_mem9 hi)
    | 1, _ => exact hp _ (kid_mem9 hi)
    | 2, _ => exact hq _ (kid_mem9 hi)
    | k + 3, h => exact absurd h (by simp)) (by
    intro i hi
    match i, hi with
    | 0, _ => exact Tryz.call82
    | 1, _ => exact Tryz.call82
    | 2, _ => exact Tryz.call83
    | k + 3, h => exact absurd h (by simp)) w1.heap.size _ _ (KidsV.below (HK.out w1 hb) (balloc8 w1 _)) (alloc_new w1 _ _)))
 rw [<- ed1] at CALL1
 have FORM := Lib.hid FORM.out
 clear hT hok hk hv eRR ed0 ed1
 subst hkk
 clear eK en em hkind
 try clear hp
 try clear hq
 cases d0 with
 | false =>
  go_enter Tryz.func45, Tryz.ntmps45
  go_wp2_with fail
  have CC0 := Lib.hid (CALL0.out _ HB.out)
  refine (CC0.out).mono ?_
  rintro e w1 ⟨rfl, hb⟩
  have HB1 := Lib.hid (Below.trans HB.out (hb.mono HB.out.size))
  have BX1 := Lib.hid (BX.out.below hb)
  clear hb
  obtain ⟨k0, k1, k2, k3⟩ := BX1.out.c
  have hlt0 := BX1.out.lt
  have hlt1 : w.heap.size < w1.heap.size + 1 := by omega
  go_wp2_with fail
  go_ret
  exact ⟨by rw [FORM.out]; try (simp; done); try rfl, HB1.out⟩
 | true =>
  go_enter Tryz.func45, Tryz.ntmps45
  go_wp2_with fail
  have CC0 := Lib.hid (CALL0.out _ HB.out)
  refine (CC0.out).mono ?_
  rintro e w1 ⟨rfl, hb⟩
  have HB1 := Lib.hid (Below.trans HB.out (hb.mono HB.out.size))
  have BX1 := Lib.hid (BX.out.below hb)
  clear hb
  obtain ⟨k0, k1, k2, k3⟩ := BX1.out.c
  have hlt0 := BX1.out.lt
  have hlt1 : w.heap.size < w1.heap.size + 1 := by omega
  go_wp2_with fail
  clear k0 k1 k2 k3 hlt0 hlt1
  have CC1 := Lib.hid (CALL1.out _ HB1.out)
  refine (CC1.out).mono ?_
  rintro e w2 ⟨rfl, hb⟩
  have HBa := Lib.hid (Below.alloc HB1.out HB1.out.size (.cells #[.func (.func 82) #[] #[], .func (.func 82) #[] #[], .func (.func 83) #[] #[]] 34))
  have HB2 := Lib.hid (Below.trans HBa.out (hb.mono HBa.out.size))
  clear HBa
  have BX2 := Lib.hid ((BX1.out.alloc _).below hb)
  clear hb
  obtain ⟨k0, k1, k2, k3⟩ := BX2.out.c
  have hlt0 := BX2.out.lt
  have hlt1 : w.heap.size < w2.heap.size + 1 := by omega
  go_wp2_with fail
  go_ret
  exact ⟨by rw [FORM.out]; try (simp; done); try rfl, HB2.out⟩
theorem isItemP_no (t : M.Tree) (f : Nat) (hk : ¬ t.kind = 2 /\ ¬ t.kind = 3 /\ ¬ t.kind = 4 /\ ¬ t.kind = 5 /\ ¬ t.kind = 6 /\ ¬ t.kind = 7 /\ ¬ t.kind = 8 /\ ¬ t.kind = 9) : FnP 45 (M.itemF (f + 1)) t := by
 intro v w hv
 have hud := hud9
 have FORM := Lib.hid (show M.itemF (f + 1) t = false by rw [M.itemF]; simp [hk])
 obtain ⟨T, kv, rfl, -, -, A, c, rfl, -⟩ := hv
 obtain ⟨K, eK⟩ : ∃ K, K = t.kind := ⟨_, rfl⟩
 rw [<- eK] at hk ⊢
 have g2 : (K == 2) = false := by rw [beq_eq_false_iff_ne]; omega
 have g3 : (K == 3) = false := by rw [beq_eq_false_iff_ne]; omega
 have g4 : (K == 4) = false := by rw [beq_eq_false_iff_ne]; omega
 have g5 : (K == 5) = false := by rw [beq_eq_false_iff_ne]; omega
 have g6 : (K == 6) = false := by rw [beq_eq_false_iff_ne]; omega
 have g7 : (K == 7) = false := by rw [beq_eq_false_iff_ne]; omega
 have g8 : (K == 8) = false := by rw [beq_eq_false_iff_ne]; omega
 have g9 : (K == 9) = false := by rw [beq_eq_false_iff_ne]; omega
 have HB := Lib.hid (balloc8 w (.cells #[.int .i64 K, .string T, .int .u64 (t.num : Nat), .slice A t.kids.length c] 25))
 clear eK hk
 go_enter Tryz.func45, Tryz.ntmps45
 go_wp2_with fail
 go_ret
 exact ⟨by rw [FORM.out]; try rfl, HB.out⟩
open Go.RowKit
theorem isItemP_8 (t : M.Tree) (f : Nat) (hp : ∀ u, u ∈ t.kids -> FnP 82 (M.exprF f) u) (hq : ∀ u, u ∈ t.kids -> FnP 83 (M.blockB (M.itemF f)) u) (hkind : t.kind = 8) : FnP 45 (M.itemF (f + 1)) t := by
 intro v w hv
 have hud := hud9
 have hnot : ∀ (x : Bool) (w : World), (Op.unary .not (.bool x)).run Tryz.prog w = .ok (.bool (!x)) w := fun _ _ => rfl
 have FORM := Lib.hid (show M.itemF (f + 1) t = (M.barP t && decide (0 < t.kids.length) && (M.exprF f (t.kids.getD 0 M.Tree.no) && (t.kids.drop 1).all M.toB)) by rw [M.item_8 f t hkind, Bool.and_assoc])
 obtain ⟨T, kv, rfl, hT, hok, hk⟩ := id hv
 obtain ⟨A, c, rfl, _⟩ := id hk
 have HV := Lib.hid fun w' (hb : Below w.heap.size w w') => hv.below hb
 have HK := Lib.hid fun w' (hb : Below w.heap.size w w') => hk.below hb
 have HTS := Lib.hid (show T.size <= 140737488351232 from hok.2.2)
 have HT := Lib.hid hT
 obtain ⟨K, eK⟩ : ∃ K, K = t.kind := ⟨_, rfl⟩
 obtain ⟨n, en⟩ : ∃ n, n = t.num := ⟨_, rfl⟩
 obtain ⟨m, em⟩ : ∃ m, m = t.kids.length := ⟨_, rfl⟩
 have HM := Lib.hid (show m = t.kids.length /\ n = t.num /\ K = t.kind from ⟨em, en, eK⟩)
 have hmb : m <= 17592186043904 := by obtain ⟨_, _, e, _, h, _⟩ := hk; rw [em]; exact h
 have hnb : n < 18446744073709551616 := by rw [en]; exact hok.2.1
 rw [<- eK, <- en, <- em] at HV ⊢
 rw [<- em] at HK
 have HB := Lib.hid (balloc8 w (.cells #[.int .i64 K, .string T, .int .u64 (n : Nat), .slice A m c] 25))
 have BX := Lib.hid (Box9.start w ⟨K, T, n, A, m, c⟩)
 obtain ⟨RR, eRR⟩ : ∃ RR, RR = (M.itemF (f + 1)) t := ⟨_, rfl⟩
 rw [<- eRR]
 rw [<- eRR] at FORM
 have hkk : K = 8 := by rw [eK]; exact hkind
 obtain ⟨d0, ed0⟩ : ∃ d, d = M.barP t := ⟨_, rfl⟩
 obtain ⟨d1, ed1⟩ : ∃ d, d = decide (0 < t.kids.length) := ⟨_, rfl⟩
 obtain ⟨d2, ed2⟩ : ∃ d, d = (M.exprF f (t.kids.getD 0 M.Tree.no) && (t.kids.drop 1).all M.toB) := ⟨_, rfl⟩
 rw [<- ed0] at FORM
 rw [<- ed1] at FORM
 rw [<- ed2] at FORM
 have CALL0 := Lib.hid (fun w1 (hb : Below w.heap.size w w1) => (show Calls Tryz.prog 43 #[.agg #[.int .i64 K, .string T, .int .u64 (n : Nat), .slice A m c]] w1 fun e w' => e = .returned (.bool (M.barP t)) /\ Below w1.heap.size w1 w' from isBare_any t _ w1 (HV.out w1 hb)))
 rw [<- ed0] at CALL0
 have FORM := Lib.hid FORM.out
 have FA1 := Lib.hid (show (d1 = true -> 0 < m) /\ (d1 = false -> ¬ 0 < m) from by rw [ed1]; rw [<- em]; exact ⟨fun h => of_decide_eq_true h, fun h => of_decide_eq_false h⟩)
 have HKID := Lib.hid (show 0 < t.kids.length -> ∃ b off T2 K2 n2 A2 n3 c3, A = some ⟨b, off, none⟩ /\ b < w.heap.size /\ w.cell? ⟨b, off, none⟩ = some (.int .i64 K2) /\ w.cell? ⟨b, off + 1, none⟩ = some (.string T2) /\ w.cell? ⟨b, off + 2, none⟩ = some (.int .u64 ((n2 : Nat) : Int)) /\ w.cell? ⟨b, off + 3, none⟩ = some (.slice A2 n3 c3) /\ NodeV w (.agg #[.int .i64 K2, .string T2, .int .u64 ((n2 : Nat) : Int), .slice A2 n3 c3]) (t.kids.getD 0 M.Tree.no) from fun h0 => by
  obtain ⟨_, _, _, h3⟩ := (id hk).kid
  obtain ⟨b, off, e, hbl, h4⟩ := h3 (by omega)
  obtain ⟨T2, A2, n2, c2, x0, x1, x2, x3, hn⟩ := h4 0 (by omega)
  exact ⟨b, off, T2, _, _, A2, n2, c2, e, hbl, by simpa using x0, by simpa using x1, by simpa using x2, by simpa using x3, hn⟩)
 have HPE := Lib.hid (fun (h0 : 0 < t.kids.length) => hp _ (kid_mem9 h0))
 have HPA := Lib.hid (fun i (hi : i < t.kids.length) => hp _ (kid_mem9 hi))
 have HQA := Lib.hid (fun i (hi : i < t.kids.length) => hq _ (kid_mem9 hi))
 have HD2 := Lib.hid ed2
 clear hT hok hk hv eRR ed0 ed1 ed2
 subst hkk
 clear eK en em hkind
 try clear hp
 try clear hq
 cases d0 with
 | false =>
  clear FA1
  go_enter Tryz.func45, Tryz.ntmps45
  go_wp2_with fail
  have CC0 := Lib.hid (CALL0.out _ HB.out)
  refine (CC0.out).mono ?_
  rintro e w1 ⟨rfl, hb⟩
  have HB1 := Lib.hid (Below.trans HB.out (hb.mono HB.out.size))
  have BX1 := Lib.hid (BX.out.below hb)
  clear hb
  obtain ⟨k0, k1, k2, k3⟩ := BX1.out.c
  have hlt0 := BX1.out.lt
  have hlt1 : w.heap.size < w1.heap.size + 1 := by omega
  go_wp2_with fail
  go_ret
  exact ⟨by rw [FORM.out]; try (simp; done); try rfl, HB1.out⟩
 | true =>
  cases d1 with
  | false =>
   have g1 := FA1.out.2 rfl
   clear FA1
   go_enter Tryz.func45, Tryz.ntmps45
   go_wp2_with fail
   have CC0 := Lib.hid (CALL0.out _ HB.out)
   refine (CC0.out).mono ?_
   rintro e w1 ⟨rfl, hb⟩
   have HB1 := Lib.hid (Below.trans HB.out (hb.mono HB.out.size))
   have BX1 := Lib.hid (BX.out.below hb)
   clear hb
   obtain ⟨k0, k1, k2, k3⟩ := BX1.out.c
   have hlt0 := BX1.out.lt
   have hlt1 : w.heap.size < w1.heap.size + 1 := by omega
   go_wp2_with fail
   go_ret
   exact ⟨by rw [FORM.out]; try (simp; done); try rfl, HB1.out⟩
  | true =>
   have g1 := FA1.out.1 rfl
   obtain ⟨b, off, T2, K2, n2, A2, n3, c3, hA, hbl, x0, x1, x2, x3, hn⟩ := HKID.out (by have := HM.out.1; omega)
   subst hA
   have HX := Lib.hid (And.intro hbl (And.intro x0 (And.intro x1 (And.intro x2 x3))))
   have PE := Lib.hid fun w1 (hb : Below w.heap.size w w1) => HPE.out (by have := HM.out.1; omega) _ w1 (hn.below hb)
   clear hbl x0 x1 x2 x3 hn HPE HKID
   obtain ⟨e2, ee2⟩ : ∃ d, d = M.exprF f (t.kids.getD 0 M.Tree.no) := ⟨_, rfl⟩
   obtain ⟨e3, ee3⟩ : ∃ d, d = (t.kids.drop 1).all M.toB := ⟨_, rfl⟩
   have FORM := Lib.hid (show RR = (e2 && e3) by rw [FORM.out, HD2.out, <- ee2, <- ee3]; rfl)
   have HE3 := Lib.hid ee3
   rw [<- ee2] at PE
   clear ee2 ee3
   cases e2 with
   | false =>
    clear FA1
    go_enter Tryz.func45, Tryz.ntmps45
    go_wp2_with fail
    have CC0 := Lib.hid (CALL0.out _ HB.out)
    refine (CC0.out).mono ?_
    rintro e w1 ⟨rfl, hb⟩
    have HB1 := Lib.hid (Below.trans HB.out (hb.mono HB.out.size))
    have BX1 := Lib.hid (BX.out.below hb)
    clear hb
    obtain ⟨k0, k1, k2, k3⟩ := BX1.out.c
    have hlt0 := BX1.out.lt
    have p0 := (HB1.out.cell (p := ⟨b, off, none⟩) HX.out.1).trans HX.out.2.1
    have p1 := (HB1.out.cell (p := ⟨b, off + 1, none⟩) HX.out.1).trans HX.out.2.2.1
    have p2 := (HB1.out.cell (p := ⟨b, off + 2, none⟩) HX.out.1).trans HX.out.2.2.2.1
    have p3 := (HB1.out.cell (p := ⟨b, off + 3, none⟩) HX.out.1).trans HX.out.2.2.2.2
    go_wp2_with fail
    refine (PE.out _ HB1.out).mono ?_
    rintro e w7 ⟨rfl, hb⟩
    have HB7 := Lib.hid (Below.trans HB1.out (hb.mono HB1.out.size))
    have BX7 := Lib.hid (BX1.out.below hb)
    clear hb k0 k1 k2 k3 p0 p1 p2 p3 hlt0
    obtain ⟨k0, k1, k2, k3⟩ := BX7.out.c
    have hlt0 := BX7.out.lt
    go_wp2_with fail
    go_ret
    exact ⟨by rw [FORM.out]; try (simp; done); try rfl, HB7.out⟩
   | true =>
    have Below9 := Lib.hid (Below.refl w.heap.size w)
    by_cases hc1 : c = 1
    ·have DR := Lib.hid fun w1 (hb : Below w.heap.size w w1) => (show Calls Tryz.prog 44 #[.slice (some ⟨b, off, none⟩) (m - 1) 0, .func (.func 84) #[] #[]] w1 fun e w2 => e = .returned (.bool e3) /\ Below w1.heap.size w1 w2 by
      have hm1 : m = 1 := by have h1 := HK.out w Below9.out; have := h1.kid.2.1; omega
      rw [HE3.out, List.drop_eq_nil_of_le (by have := HM.out.1; omega), hm1]
      exact all_any (l := []) (fun i hi => absurd hi (by simp)) Tryz.call84 _ _ ⟨_, 0, rfl, by simp, by simp, fun h => absurd h (by simp)⟩)
     subst hc1
     clear FA1
     go_enter Tryz.func45, Tryz.ntmps45
     go_wp2_with fail
     have CC0 := Lib.hid (CALL0.out _ HB.out)
     refine (CC0.out).mono ?_
     rintro e w1 ⟨rfl, hb⟩
     have HB1 := Lib.hid (Below.trans HB.out (hb.mono HB.out.size))
     have BX1 := Lib.hid (BX.out.below hb)
     clear hb
     obtain ⟨k0, k1, k2, k3⟩ := BX1.out.c
     have hlt0 := BX1.out.lt
     have p0 := (HB1.out.cell (p := ⟨b, off, none⟩) HX.out.1).trans HX.out.2.1
     have p1 := (HB1.out.cell (p := ⟨b, off + 1, none⟩) HX.out.1).trans HX.out.2.2.1
     have p2 := (HB1.out.cell (p := ⟨b, off + 2, none⟩) HX.out.1).trans HX.out.2.2.2.1
     have p3 := (HB1.out.cell (p := ⟨b, off + 3, none⟩) HX.out.1).trans HX.out.2.2.2.2
     go_wp2_with fail
     refine (PE.out _ HB1.out).mono ?_
     rintro e w7 ⟨rfl, hb⟩
     have HB7 := Lib.hid (Below.trans HB1.out (hb.mono HB1.out.size))
     have BX7 := Lib.hid (BX1.out.below hb)
     clear hb k0 k1 k2 k3 p0 p1 p2 p3 hlt0
     obtain ⟨k0, k1, k2, k3⟩ := BX7.out.c
     have hlt0 := BX7.out.lt
     go_wp2_with fail
     refine (DR.out w7 HB7.out).mono ?_
     rintro e w8 ⟨rfl, hb⟩
     have HB8 := Lib.hid (Below.trans HB7.out (hb.mono HB7.out.size))
     have BX8 := Lib.hid (BX7.out.below hb)
     clear hb
     go_wp2_with fail
     go_ret
     exact ⟨by rw [FORM.out]; try (simp; done); try rfl, HB8.out⟩
    ·have DR := Lib.hid fun w1 (hb : Below w.heap.size w w1) => (show Calls Tryz.prog 44 #[.slice (some ⟨b, off + 1 * 4, none⟩) (m - 1) (c - 1), .func (.func 84) #[] #[]] w1 fun e w2 => e = .returned (.bool e3) /\ Below w1.heap.size w1 w2 by
      have h1 := HK.out w1 hb
      rw [HM.out.1] at h1 ⊢
      have h2 := h1.cut 1 t.kids.length (by have := HM.out.1; omega) (Nat.le_refl _)
      rw [show (t.kids.drop 1).take (t.kids.length - 1) = t.kids.drop 1 from List.take_of_length_le (by rw [List.length_drop]; omega)] at h2
      rw [HE3.out]
      exact all_any (fun i hi => isRecipient_any _) Tryz.call84 _ _ h2)
     have hcle : m <= c := (HK.out w Below9.out).kid.2.1
     have hc2 : 1 < c := by omega
     clear FA1
     go_enter Tryz.func45, Tryz.ntmps45
     go_wp2_with fail
     have CC0 := Lib.hid (CALL0.out _ HB.out)
     refine (CC0.out).mono ?_
     rintro e w1 ⟨rfl, hb⟩
     have HB1 := Lib.hid (Below.trans HB.out (hb.mono HB.out.size))
     have BX1 := Lib.hid (BX.out.below hb)
     clear hb
     obtain ⟨k0, k1, k2, k3⟩ := BX1.out.c
     have hlt0 := BX1.out.lt
     have p0 := (HB1.out.cell (p := ⟨b, off, none⟩) HX.out.1).trans HX.out.2.1
     have p1 := (HB1.out.cell (p := ⟨b, off + 1, none⟩) HX.out.1).trans HX.out.2.2.1
     have p2 := (HB1.out.cell (p := ⟨b, off + 2, none⟩) HX.out.1).trans HX.out.2.2.2.1
     have p3 := (HB1.out.cell (p := ⟨b, off + 3, none⟩) HX.out.1).trans HX.out.2.2.2.2
     go_wp2_with fail
     refine (PE.out _ HB1.out).mono ?_
     rintro e w7 ⟨rfl, hb⟩
     have HB7 := Lib.hid (Below.trans HB1.out (hb.mono HB1.out.size))
     have BX7 := Lib.hid (BX1.out.below hb)
     clear hb k0 k1 k2 k3 p0 p1 p2 p3 hlt0
     obtain ⟨k0, k1, k2, k3⟩ := BX7.out.c
     have hlt0 := BX7.out.lt
     go_wp2_with fail
     refine (DR.out w7 HB7.out).mono ?_
     rintro e w8 ⟨rfl, hb⟩
     have HB8 := Lib.hid (Below.trans HB7.out (hb.mono HB7.out.size))
     have BX8 := Lib.hid (BX7.out.below hb)
     clear hb
     go_wp2_with fail
     go_ret
     exact ⟨by rw [FORM.out]; try (simp; done); try rfl, HB8.out⟩
open Go.RowKit
theorem drop_getD9 {l : List M.Tree} {i j : Nat} : (l.drop i).getD j M.Tree.no = l.getD (i + j) M.Tree.no := by
 rw [List.getD_eq_getElem?_getD, List.getElem?_drop, <- List.getD_eq_getElem?_getD]
theorem isItemP_9 (t : M.Tree) (f : Nat) (hp : ∀ u, u ∈ t.kids -> FnP 82 (M.exprF f) u) (hq : ∀ u, u ∈ t.kids -> FnP 83 (M.blockB (M.itemF f)) u) (hkind : t.kind = 9) : FnP 45 (M.itemF (f + 1)) t := by
 intro v w hv
 have hud := hud9
 have hnot : ∀ (x : Bool) (w : World), (Op.unary .not (.bool x)).run Tryz.prog w = .ok (.bool (!x)) w := fun _ _ => rfl
 have FORM := Lib.hid (show M.itemF (f + 1) t = (M.hasNameP t && (decide (2 <= t.kids.length) && (t.kids.take (t.kids.length - 2)).all M.argB && M.matchB [M.blockB (M.itemF f), M.exprF f] (t.kids.drop (t.kids.length - 2)))) by rw [M.item_9 f t hkind]; simp only [Bool.and_assoc])
 obtain ⟨T, kv, rfl, hT, hok, hk⟩ := id hv
 obtain ⟨A, c, rfl, _⟩ := id hk
 have HV := Lib.hid fun w' (hb : Below w.heap.size w w') => hv.below hb
 have HK := Lib.hid fun w' (hb : Below w.heap.size w w') => hk.below hb
 have HTS := Lib.hid (show T.size <= 140737488351232 from hok.2.2)
 have HT := Lib.hid hT
 obtain ⟨K, eK⟩ : ∃ K, K = t.kind := ⟨_, rfl⟩
 obtain ⟨n, en⟩ : ∃ n, n = t.num := ⟨_, rfl⟩
 obtain ⟨m, em⟩ : ∃ m, m = t.kids.length := ⟨_, rfl⟩
 have HM := Lib.hid (show m = t.kids.length /\ n = t.num /\ K = t.kind from ⟨em, en, eK⟩)
 have hmb : m <= 17592186043904 := by obtain ⟨_, _, e, _, h, _⟩ := hk; rw [em]; exact h
 have hnb : n < 18446744073709551616 := by rw [en]; exact hok.2.1
 rw [<- eK, <- en, <- em] at HV ⊢
 rw [<- em] at HK
 have HB := Lib.hid (balloc8 w (.cells #[.int .i64 K, .string T, .int .u64 (n : Nat), .slice A m c] 25))
 have BX := Lib.hid (Box9.start w ⟨K, T, n, A, m, c⟩)
 obtain ⟨RR, eRR⟩ : ∃ RR, RR = (M.itemF (f + 1)) t := ⟨_, rfl⟩
 rw [<- eRR]
 rw [<- eRR] at FORM
 have hkk : K = 9 := by rw [eK]; exact hkind
 obtain ⟨d0, ed0⟩ : ∃ d, d = M.hasNameP t := ⟨_, rfl⟩
 obtain ⟨d1, ed1⟩ : ∃ d, d = (decide (2 <= t.kids.length) && (t.kids.take (t.kids.length - 2)).all M.argB && M.matchB [M.blockB (M.itemF f), M.exprF f] (t.kids.drop (t.kids.length - 2))) := ⟨_, rfl⟩
 rw [<- ed0] at FORM
 rw [<- ed1] at FORM
 have CALL0 := Lib.hid (fun w1 (hb : Below w.heap.size w w1) => (show Calls Tryz.prog 81 #[.agg #[.int .i64 K, .string T, .int .u64 (n : Nat), .slice A m c]] w1 fun e w' => e = .returned (.bool (M.hasNameP t)) /\ Below w1.heap.size w1 w' from hasName_any t _ w1 (HV.out w1 hb)))
 rw [<- ed0] at CALL0
 have FORM := Lib.hid FORM.out
 have HKID := Lib.hid (show 0 < t.kids.length -> ∃ b off T2 K2 n2 A2 n3 c3, A = some ⟨b, off, none⟩ /\ b < w.heap.size /\ w.cell? ⟨b, off, none⟩ = some (.int .i64 K2) /\ w.cell? ⟨b, off + 1, none⟩ = some (.string T2) /\ w.cell? ⟨b, off + 2, none⟩ = some (.int .u64 ((n2 : Nat) : Int)) /\ w.cell? ⟨b, off + 3, none⟩ = some (.slice A2 n3 c3) /\ NodeV w (.agg #[.int .i64 K2, .string T2, .int .u64 ((n2 : Nat) : Int), .slice A2 n3 c3]) (t.kids.getD 0 M.Tree.no) from fun h0 => by
  obtain ⟨_, _, _, h3⟩ := (id hk).kid
  obtain ⟨b, off, e, hbl, h4⟩ := h3 (by omega)
  obtain ⟨T2, A2, n2, c2, x0, x1, x2, x3, hn⟩ := h4 0 (by omega)
  exact ⟨b, off, T2, _, _, A2, n2, c2, e, hbl, by simpa using x0, by simpa using x1, by simpa using x2, by simpa using x3, hn⟩)
 have HPE := Lib.hid (fun (h0 : 0 < t.kids.length) => hp _ (kid_mem9 h0))
 have HPA := Lib.hid (fun i (hi : i < t.kids.length) => hp _ (kid_mem9 hi))
 have HQA := Lib.hid (fun i (hi : i < t.kids.length) => hq _ (kid_mem9 hi))
 have HD1 := Lib.hid ed1
 clear hT hok hk hv eRR ed0 ed1
 subst hkk
 clear eK en em hkind
 try clear hp
 try clear hq
 cases d0 with
 | false =>
  go_enter Tryz.func45, Tryz.ntmps45
  go_wp2_with fail
  have CC0 := Lib.hid (CALL0.out _ HB.out)
  refine (CC0.out).mono ?_
  rintro e w1 ⟨rfl, hb⟩
  have HB1 := Lib.hid (Below.trans HB.out (hb.mono HB.out.size))
  have BX1 := Lib.hid (BX.out.below hb)
  clear hb
  obtain ⟨k0, k1, k2, k3⟩ := BX1.out.c
  have hlt0 := BX1.out.lt
  have hlt1 : w.heap.size < w1.heap.size + 1 := by omega
  go_wp2_with fail
  go_ret
  exact ⟨by rw [FORM.out]; try (simp; done); try rfl, HB1.out⟩
 | true =>
  obtain ⟨e1, ee1⟩ : ∃ d, d = (t.kids.take (t.kids.length - 2)).all M.argB := ⟨_, rfl⟩
  obtain ⟨e2, ee2⟩ : ∃ d, d = M.matchB [M.blockB (M.itemF f), M.exprF f] (t.kids.drop (t.kids.length - 2)) := ⟨_, rfl⟩
  have FORM := Lib.hid (show RR = (decide (2 <= t.kids.length) && e1 && e2) by rw [FORM.out, HD1.out, <- ee1, <- ee2]; rfl)
  have HE1 := Lib.hid ee1
  have HE2 := Lib.hid ee2
  clear ee1 ee2
  have Below9 := Lib.hid (Below.refl w.heap.size w)
  by_cases h2 : 2 <= m
  case neg =>
   have FORM := Lib.hid (FORM.out.trans (show _ = false by rw [<- HM.out.1, decide_eq_false h2]; rfl))
   have hng : ¬ (0 : Int) <= (m : Int) - 2 := by omega
   have hng2 : decide (((m : Nat) : Int) - 2 ≥ 0) = false := by rw [decide_eq_false_iff_not]; omega
   have hng3 : decide ((0 : Int) <= ((m : Nat) : Int) - 2) = false := by rw [decide_eq_false_iff_not]; omega
   go_enter Tryz.func45, Tryz.ntmps45
   go_wp2_with fail
   have CC0 := Lib.hid (CALL0.out _ HB.out)
   refine (CC0.out).mono ?_
   rintro e w1 ⟨rfl, hb⟩
   have HB1 := Lib.hid (Below.trans HB.out (hb.mono HB.out.size))
   have BX1 := Lib.hid (BX.out.below hb)
   clear hb
   obtain ⟨k0, k1, k2, k3⟩ := BX1.out.c
   have hlt0 := BX1.out.lt
   go_wp2_with fail
   go_ret
   exact ⟨by rw [FORM.out]; try (simp; done); try rfl, HB1.out⟩
  case pos =>
   obtain ⟨b, off, T2, K2, n2, A2, n3, c3, hA, hbl, -, -, -, -, -⟩ := HKID.out (by have := HM.out.1; omega)
   subst hA
   clear HKID HPE hbl
   obtain ⟨j, hj⟩ : ∃ j, m = j + 2 := ⟨m - 2, by omega⟩
   have HJ := Lib.hid (show j = t.kids.length - 2 /\ j + 2 = t.kids.length from ⟨by have := HM.out.1; omega, by have := HM.out.1; omega⟩)
   have hz2 : (m : Int) - 2 = (j : Nat) := by omega
   have hjl : j <= m := by omega
   have hjl2 : j < m := by omega
   have hcle : m <= c := (HK.out w Below9.out).kid.2.1
   have hjc : j < c := by omega
   have hjc2 : j <= c := by omega
   have hpos : decide (((j : Nat) : Int) ≥ 0) = true := by rw [decide_eq_true_eq]; omega
   have FORM := Lib.hid (show RR = (e1 && e2) by rw [FORM.out, decide_eq_true (show 2 <= t.kids.length by have := HJ.out; omega)]; rfl)
   have DR := Lib.hid fun w1 (hb : Below w.heap.size w w1) => (show Calls Tryz.prog 44 #[.slice (some ⟨b, off, none⟩) j c, .func (.func 85) #[] #[]] w1 fun e w2 => e = .returned (.bool e1) /\ Below w1.heap.size w1 w2 by
    have h1 := HK.out w1 hb
    rw [HM.out.1] at h1
    have h2 := h1.cut 0 j (Nat.zero_le _) (by have := HJ.out; omega)
    simp only [Nat.zero_mul, Nat.add_zero, Nat.sub_zero, List.drop_zero] at h2
    rw [HE1.out, <- HJ.out.1]
    exact all_any (fun i hi => isParameter_any _) Tryz.call85 _ _ h2)
   have DM := Lib.hid fun w1 (hb : Below w.heap.size w w1) => (show Calls Tryz.prog 79 #[.slice (some ⟨b, off + j * 4, none⟩) (m - j) (c - j), .slice (some ⟨w1.heap.size, 0, none⟩) 2 2] (w1.alloc (.cells #[.func (.func 83) #[] #[], .func (.func 82) #[] #[]] 34)) fun e w2 => e = .returned (.bool e2) /\ Below (w1.alloc (.cells #[.func (.func 83) #[] #[], .func (.func 82) #[] #[]] 34)).heap.size (w1.alloc (.cells #[.func (.func 83) #[] #[], .func (.func 82) #[] #[]] 34)) w2 by
    have h1 := HK.out w1 hb
    rw [HM.out.1] at h1 ⊢
    have h2 := h1.cut j t.kids.length (by have := HJ.out; omega) (Nat.le_refl _)
    rw [show (t.kids.drop j).take (t.kids.length - j) = t.kids.drop j from List.take_of_length_le (by rw [List.length_drop]; omega)] at h2
    rw [HE2.out, <- HJ.out.1]
    exact match_any [83, 82] [M.blockB (M.itemF f), M.exprF f] rfl (by simp) (by
     intro i hi hi2
     match i, hi2 with
     | 0, _ => rw [drop_getD9]; exact HQA.out _ (by have := HJ.out; omega)
     | 1, _ => rw [drop_getD9]; exact HPA.out _ (by have := HJ.out; omega)
     | k + 2, h => exact absurd h (by simp)) (by
     intro i hi
     match i, hi with
     | 0, _ => exact Tryz.call83
     | 1, _ => exact Tryz.call82
     | k + 2, h => exact absurd h (by simp)) w1.heap.size _ _ (KidsV.below h2 (balloc8 w1 _)) (alloc_new w1 _ _))
   clear hj h2 HQA HPA
   cases e1 with
   | false =>
    go_enter Tryz.func45, Tryz.ntmps45
    go_wp2_with fail
    have CC0 := Lib.hid (CALL0.out _ HB.out)
    refine (CC0.out).mono ?_
    rintro e w1 ⟨rfl, hb⟩
    have HB1 := Lib.hid (Below.trans HB.out (hb.mono HB.out.size))
    have BX1 := Lib.hid (BX.out.below hb)
    clear hb
    obtain ⟨k0, k1, k2, k3⟩ := BX1.out.c
    have hlt0 := BX1.out.lt
    go_wp2_with fail
    refine (DR.out _ HB1.out).mono ?_
    rintro e w7 ⟨rfl, hb⟩
    have HB7 := Lib.hid (Below.trans HB1.out (hb.mono HB1.out.size))
    have BX7 := Lib.hid (BX1.out.below hb)
    clear hb k0 k1 k2 k3 hlt0
    obtain ⟨k0, k1, k2, k3⟩ := BX7.out.c
    have hlt0 := BX7.out.lt
    have hlt1 : w.heap.size < w7.heap.size + 1 := by omega
    go_wp2_with fail
    go_ret
    exact ⟨by rw [FORM.out]; try (simp; done); try rfl, HB7.out⟩
   | true =>
    go_enter Tryz.func45, Tryz.ntmps45
    go_wp2_with fail
    have CC0 := Lib.hid (CALL0.out _ HB.out)
    refine (CC0.out).mono ?_
    rintro e w1 ⟨rfl, hb⟩
    have HB1 := Lib.hid (Below.trans HB.out (hb.mono HB.out.size))
    have BX1 := Lib.hid (BX.out.below hb)
    clear hb
    obtain ⟨k0, k1, k2, k3⟩ := BX1.out.c
    have hlt0 := BX1.out.lt
    go_wp2_with fail
    refine (DR.out _ HB1.out).mono ?_
    rintro e w7 ⟨rfl, hb⟩
    have HB7 := Lib.hid (Below.trans HB1.out (hb.mono HB1.out.size))
    have BX7 := Lib.hid (BX1.out.below hb)
    clear hb k0 k1 k2 k3 hlt0
    obtain ⟨k0, k1, k2, k3⟩ := BX7.out.c
    have hlt0 := BX7.out.lt
    have hlt1 : w.heap.size < w7.heap.size + 1 := by omega
    go_wp2_with fail
    refine (DM.out _ HB7.out).mono ?_
    rintro e w8 ⟨rfl, hb⟩
    have HBa := Lib.hid (Below.alloc HB7.out HB7.out.size (.cells #[.func (.func 83) #[] #[], .func (.func 82) #[] #[]] 34))
    have HB8 := Lib.hid (Below.trans HBa.out (hb.mono HBa.out.size))
    clear hb
    go_wp2_with fail
    go_ret
    exact ⟨by rw [FORM.out]; try (simp; done); try rfl, HB8.out⟩
open Go.RowKit
theorem isItemP_any : ∀ (f : Nat) (t : M.Tree), M.count t <= f -> FnP 45 (M.itemF f) t
 | 0, t, h => by have := M.count_pos t; omega
 | f + 1, t, h => by
  have hp : ∀ u, u ∈ t.kids -> FnP 82 (M.exprF f) u := fun u hu => isExprP_any f u (by have := M.count_kid hu; omega)
  have hq : ∀ u, u ∈ t.kids -> FnP 83 (M.blockB (M.itemF f)) u := fun u hu => isBlock_any u fun x hx => isItemP_any f x (by have := M.count_kid hu; have := M.count_kid hx; omega)
  by_cases h2 : t.kind = 2
  ·exact isItemP_2 t f hp hq h2
  by_cases h3 : t.kind = 3
  ·exact isItemP_3 t f hp hq h3
  by_cases h4 : t.kind = 4
  ·exact isItemP_4 t f hp hq h4
  by_cases h5 : t.kind = 5
  ·exact isItemP_5 t f hp hq h5
  by_cases h6 : t.kind = 6
  ·exact isItemP_6 t f hp hq h6
  by_cases h7 : t.kind = 7
  ·exact isItemP_7 t f hp hq h7
  by_cases h8 : t.kind = 8
  ·exact isItemP_8 t f hp hq h8
  by_cases h9 : t.kind = 9
  ·exact isItemP_9 t f hp hq h9
  exact isItemP_no t f ⟨h2, h3, h4, h5, h6, h7, h8, h9⟩
def M.progB (t : M.Tree) : Bool := decide (t.kind = 1) && M.barP t && t.kids.all (M.itemF (M.count t))
theorem isProgram_any (t : M.Tree) : FnP 30 (M.progB) t := by
 intro v w hv
 have hud := hud9
 have hnot : ∀ (x : Bool) (w : World), (Op.unary .not (.bool x)).run Tryz.prog w = .ok (.bool (!x)) w := fun _ _ => rfl
 have FORM := Lib.hid (show M.progB t = (decide (t.kind = 1) && M.barP t && t.kids.all (M.itemF (M.count t))) from rfl)
 obtain ⟨T, kv, rfl, hT, hok, hk⟩ := id hv
 obtain ⟨A, c, rfl, _⟩ := id hk
 have HV := Lib.hid fun w' (hb : Below w.heap.size w w') => hv.below hb
 have HK := Lib.hid fun w' (hb : Below w.heap.size w w') => hk.below hb
 have HTS := Lib.hid (show T.size <= 140737488351232 from hok.2.2)
 have HT := Lib.hid hT
 obtain ⟨K, eK⟩ : ∃ K, K = t.kind := ⟨_, rfl⟩
 obtain ⟨n, en⟩ : ∃ n, n = t.num := ⟨_, rfl⟩
 obtain ⟨m, em⟩ : ∃ m, m = t.kids.length := ⟨_, rfl⟩
 have HM := Lib.hid (show m = t.kids.length /\ n = t.num /\ K = t.kind from ⟨em, en, eK⟩)
 have hmb : m <= 17592186043904 := by obtain ⟨_, _, e, _, h, _⟩ := hk; rw [em]; exact h
 have hnb : n < 18446744073709551616 := by rw [en]; exact hok.2.1
 rw [<- eK, <- en, <- em] at HV ⊢
 rw [<- em] at HK
 have HB := Lib.hid (balloc8 w (.cells #[.int .i64 K, .string T, .int .u64 (n : Nat), .slice A m c] 25))
 have BX := Lib.hid (Box9.start w ⟨K, T, n, A, m, c⟩)
 obtain ⟨RR, eRR⟩ : ∃ RR, RR = (M.progB) t := ⟨_, rfl⟩
 rw [<- eRR]
 rw [<- eRR] at FORM
 obtain ⟨d0, ed0⟩ : ∃ d, d = decide (t.kind = 1) := ⟨_, rfl⟩
 obtain ⟨d1, ed1⟩ : ∃ d, d = M.barP t := ⟨_, rfl⟩
 obtain ⟨d2, ed2⟩ : ∃ d, d = t.kids.all (M.itemF (M.count t)) := ⟨_, rfl⟩
 rw [<- ed0] at FORM
 rw [<- ed1] at FORM
 rw [<- ed2] at FORM
 have CALL1 := Lib.hid (fun w1 (hb : Below w.heap.size w w1) => (show Calls Tryz.prog 43 #[.agg #[.int .i64 K, .string T, .int .u64 (n : Nat), .slice A m c]] w1 fun e w' => e = .returned (.bool (M.barP t)) /\ Below w1.heap.size w1 w' from isBare_any t _ w1 (HV.out w1 hb)))
 rw [<- ed1] at CALL1
 have CALL2 := Lib.hid (fun w1 (hb : Below w.heap.size w w1) => (show Calls Tryz.prog 44 #[.slice A m c, .func (.func 45) #[] #[]] w1 fun e w' => e = .returned (.bool (t.kids.all (M.itemF (M.count t)))) /\ Below w1.heap.size w1 w' from all_any (fun i hi => isItemP_any _ _ (Nat.le_of_lt (M.count_kid (kid_mem9 hi)))) Tryz.call45 _ _ (HK.out w1 hb)))
 rw [<- ed2] at CALL2
 have FORM := Lib.hid FORM.out
 have FA0 := Lib.hid (show (d0 = true -> K = 1) /\ (d0 = false -> (K == 1) = false /\ (K != 1) = true) from by rw [ed0]; rw [<- eK]; exact ⟨fun h => of_decide_eq_true h, fun h => by have h := of_decide_eq_false h; exact ⟨by rw [beq_eq_false_iff_ne]; exact h, by rw [bne_iff_ne]; exact h⟩⟩)
 clear hT hok hk hv eRR ed0 ed1 ed2
 clear eK en em
 cases d0 with
 | false =>
  have g0 := FA0.out.2 rfl
  obtain ⟨gk, gk2⟩ := g0
  clear FA0
  go_enter Tryz.func30, Tryz.ntmps30
  go_wp2_with fail
  go_ret
  exact ⟨by rw [FORM.out]; try (simp; done); try rfl, HB.out⟩
 | true =>
  have g0 := FA0.out.1 rfl
  subst g0
  cases d1 with
  | false =>
   clear FA0
   go_enter Tryz.func30, Tryz.ntmps30
   go_wp2_with fail
   have CC1 := Lib.hid (CALL1.out _ HB.out)
   refine (CC1.out).mono ?_
   rintro e w1 ⟨rfl, hb⟩
   have HB1 := Lib.hid (Below.trans HB.out (hb.mono HB.out.size))
   have BX1 := Lib.hid (BX.out.below hb)
   clear hb
   obtain ⟨k0, k1, k2, k3⟩ := BX1.out.c
   have hlt0 := BX1.out.lt
   have hlt1 : w.heap.size < w1.heap.size + 1 := by omega
   go_wp2_with fail
   go_ret
   exact ⟨by rw [FORM.out]; try (simp; done); try rfl, HB1.out⟩
  | true =>
   clear FA0
   go_enter Tryz.func30, Tryz.ntmps30
   go_wp2_with fail
   have CC1 := Lib.hid (CALL1.out _ HB.out)
   refine (CC1.out).mono ?_
   rintro e w1 ⟨rfl, hb⟩
   have HB1 := Lib.hid (Below.trans HB.out (hb.mono HB.out.size))
   have BX1 := Lib.hid (BX.out.below hb)
   clear hb
   obtain ⟨k0, k1, k2, k3⟩ := BX1.out.c
   have hlt0 := BX1.out.lt
   have hlt1 : w.heap.size < w1.heap.size + 1 := by omega
   go_wp2_with fail
   clear k0 k1 k2 k3 hlt0 hlt1
   have CC2 := Lib.hid (CALL2.out _ HB1.out)
   refine (CC2.out).mono ?_
   rintro e w2 ⟨rfl, hb⟩
   have HB2 := Lib.hid (Below.trans HB1.out (hb.mono HB1.out.size))
   have BX2 := Lib.hid (BX1.out.below hb)
   clear hb
   obtain ⟨k0, k1, k2, k3⟩ := BX2.out.c
   have hlt0 := BX2.out.lt
   have hlt1 : w.heap.size < w2.heap.size + 1 := by omega
   go_wp2_with fail
   go_ret
   exact ⟨by rw [FORM.out]; try (simp; done); try rfl, HB2.out⟩
theorem prog_iff (t : M.Tree) : M.progB t = true ↔ (t.kind = 1 /\ t.text = [] /\ t.num = 0 /\ t.kids.all (M.itemF (M.count t)) = true) := by
 unfold M.progB M.barP
 rw [Bool.and_eq_true, Bool.and_eq_true, Bool.and_eq_true, decide_eq_true_eq, decide_eq_true_eq, decide_eq_true_eq]
 exact ⟨fun h => ⟨h.1.1, h.1.2.1, h.1.2.2, h.2⟩, fun h => ⟨⟨h.1, h.2.1, h.2.2.1⟩, h.2.2.2⟩⟩
theorem check_form (t : M.Tree) : M.checkE t = if M.progB t = true then M.sizeE t else 4 := by
 unfold M.checkE
 by_cases h : t.kind = 1 /\ t.text = [] /\ t.num = 0 /\ t.kids.all (M.itemF (M.count t)) = true
 ·rw [if_pos h, if_pos ((prog_iff t).2 h)]; rfl
 ·rw [if_neg h, if_neg (fun e => h ((prog_iff t).1 e))]
theorem check9_any (t : M.Tree) (hc : M.count t <= 4611686018427387904) (v : Value) (w : World) (hv : NodeV w v t) : Calls Tryz.prog 14 #[v] w fun e w' => e = .returned (.int .i64 (M.checkE t)) /\ Below w.heap.size w w' := by
 have hud := hud9
 have PR := Lib.hid fun w' (hb : Below w.heap.size w w') => isProgram_any t v w' (hv.below hb)
 have CS := Lib.hid fun w' (hb : Below w.heap.size w w') => checkSize_any t v w' (hv.below hb) hc
 have FORM := Lib.hid (check_form t)
 obtain ⟨p, ep⟩ : ∃ p, p = M.progB t := ⟨_, rfl⟩
 obtain ⟨z, ez⟩ : ∃ z, z = M.sizeE t := ⟨_, rfl⟩
 obtain ⟨R, eR⟩ : ∃ R, R = M.checkE t := ⟨_, rfl⟩
 rw [<- ep, <- ez, <- eR] at FORM
 rw [<- ep] at PR
 rw [<- ez] at CS
 rw [<- eR]
 obtain ⟨T, kv, rfl, -, -, A, c, rfl, -⟩ := hv
 obtain ⟨K, eK⟩ : ∃ K, K = t.kind := ⟨_, rfl⟩
 obtain ⟨n, en⟩ : ∃ n, n = t.num := ⟨_, rfl⟩
 obtain ⟨m, em⟩ : ∃ m, m = t.kids.length := ⟨_, rfl⟩
 rw [<- eK, <- en, <- em] at PR CS ⊢
 clear ep ez eR eK en em hc
 have HB := Lib.hid (balloc8 w (.cells #[.int .i64 K, .string T, .int .u64 (n : Nat), .slice A m c] 25))
 have BX := Lib.hid (Box9.start w ⟨K, T, n, A, m, c⟩)
 cases p with
 | false =>
  go_enter Tryz.func14, Tryz.ntmps14
  go_wp2_with fail
  refine (PR.out _ HB.out).mono ?_
  rintro e w1 ⟨rfl, hb⟩
  have HB1 := Lib.hid (Below.trans HB.out (hb.mono HB.out.size))
  clear hb
  go_wp2_with fail
  go_ret
  exact ⟨by rw [FORM.out]; try rfl, HB1.out⟩
 | true =>
  go_enter Tryz.func14, Tryz.ntmps14
  go_wp2_with fail
  refine (PR.out _ HB.out).mono ?_
  rintro e w1 ⟨rfl, hb⟩
  have HB1 := Lib.hid (Below.trans HB.out (hb.mono HB.out.size))
  have BX1 := Lib.hid (BX.out.below hb)
  clear hb
  obtain ⟨k0, k1, k2, k3⟩ := BX1.out.c
  go_wp2_with fail
  refine (CS.out _ HB1.out).mono ?_
  rintro e w2 ⟨rfl, hb⟩
  have HB2 := Lib.hid (Below.trans HB1.out (hb.mono HB1.out.size))
  clear hb
  go_wp2_with fail
  go_ret
  exact ⟨by rw [FORM.out]; try rfl, HB2.out⟩
end Go.Proofs.YtngpedcihajepaaGreatDoor
