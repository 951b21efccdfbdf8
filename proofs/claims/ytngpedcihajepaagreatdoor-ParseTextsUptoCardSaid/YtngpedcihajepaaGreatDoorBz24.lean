/-
 Merged out of the texts Ot9.
-/
import Derived.Test.YtngpedcihajepaaGreatDoorRows
import Derived.WalkKit
import Derived.ProofKit
import Derived.OpenShut
import Derived.SizedLaws
import Derived.Deep.Slices
import Derived.Deep.Fields
import Derived.ChangeSame
import Derived.LaidLaws
import Derived.Deep.CondSized
import Derived.Handed
import Derived.Test.YtngpedcihajepaaGreatDoorProg
import Derived.Deep.RegionHeld3
import Derived.WalkSpells
import Derived.WalkLawsBesides
import Derived.Lib.Hide
import Derived.Below
import Derived.Deep.QuietTactic
import Derived.BigQuiet
import Derived.ChangeMaps5
import Derived.Test.YtngpedcihajepaaGreatDoorBz1
import Derived.Test.YtngpedcihajepaaGreatDoorBz2
import Derived.Test.YtngpedcihajepaaGreatDoorBz3
import Derived.Test.YtngpedcihajepaaGreatDoorSq9
set_option linter.unusedVariables false
set_option linter.unusedSimpArgs false
set_option maxRecDepth 100000
set_option maxHeartbeats 40000000
namespace Go.Proofs.YtngpedcihajepaaGreatDoor
open Go.ChangeShapes Go.WideShapes Go.ChangeAt Go.RowKit Go.Deep
theorem mem_wAll {H : Type} {P : Program} {e : TypeId} {d : DataW H} {n : Nat} : ∀ l : List (DataW H), d ∈ l -> n ∈ d.weights P e -> n ∈ DataW.weightsAll P e l
 | [], h, _ => by cases h
 | x :: l, h, hn => by
  rw [DataW.weightsAll]
  rcases List.mem_cons.1 h with rfl | h
  ·exact List.mem_append_left _ hn
  ·exact List.mem_append_right _ (mem_wAll l h hn)
theorem bulk_mem9 {H : Type} {d : DataW H} : ∀ {l : List (DataW H)}, d ∈ l -> Rows.uptoBulk d <= Rows.uptoBulkAll l
 | [], h => by cases h
 | x :: l, h => by
  simp only [Rows.uptoBulkAll]
  rcases List.mem_cons.1 h with rfl | h
  ·omega
  ·have := bulk_mem9 h; omega
theorem trees_list {P : Nat -> M.Tree -> Prop} : ∀ n : Nat, (∀ i, i < n -> ∃ x, P i x) -> ∃ xs : List M.Tree, xs.length = n /\ ∀ i, i < n -> P i (xs.getD i M.Tree.no)
 | 0, _ => ⟨[], rfl, fun i h => by omega⟩
 | n + 1, h => by
  obtain ⟨xs, hl, hx⟩ := trees_list n (fun i hi => h i (by omega))
  obtain ⟨x, hn⟩ := h n (by omega)
  refine ⟨xs ++ [x], by simp [hl], fun i hi => ?_⟩
  by_cases h2 : i < n
  ·have e : (xs ++ [x]).getD i M.Tree.no = xs.getD i M.Tree.no := by
    rw [List.getD_eq_getElem?_getD, List.getD_eq_getElem?_getD, List.getElem?_append_left (by omega)]
   rw [e]; exact hx i h2
  ·obtain rfl : i = n := by omega
   have e : (xs ++ [x]).getD i M.Tree.no = x := by
    rw [List.getD_eq_getElem?_getD, List.getElem?_append_right (by omega), hl, Nat.sub_self]; rfl
   rw [e]; exact hn
theorem count_bulk {H : Type} {D : Nat -> DataW H} : ∀ (n : Nat) (xs : List M.Tree), xs.length = n -> (∀ i, i < n -> M.count (xs.getD i M.Tree.no) <= Rows.uptoBulk (D i)) -> M.countL xs <= Rows.uptoBulkAll ((List.range n).map D)
 | n, xs, hl, h => by
  have key : ∀ (k : Nat) (ys : List M.Tree) (E : Nat -> DataW H), (∀ i, i < ys.length -> M.count (ys.getD i M.Tree.no) <= Rows.uptoBulk (E i)) -> M.countL ys <= Rows.uptoBulkAll ((List.range ys.length).map E) := by
   intro k ys
   induction ys with
   | nil => intro E _; simp [M.countL]
   | cons a r ih =>
    intro E hE
    have h0 := hE 0 (by simp)
    have h1 := ih (fun i => E (i + 1)) fun i hi => hE (i + 1) (by simpa using hi)
    rw [M.countL, List.length_cons, List.range_succ_eq_map, List.map_cons, List.map_map]
    simp only [Rows.uptoBulkAll]
    have : (List.range r.length).map (E ∘ Nat.succ) = (List.range r.length).map fun i => E (i + 1) := rfl
    rw [this]
    have h0 : M.count a <= Rows.uptoBulk (E 0) := h0
    omega
  subst hl
  exact key 0 xs D h
theorem open_node_ind {H : Type} {enc : TypeId × Value -> H} {W : World} {base : Nat} {sp : Nat -> Bool} {held : Bool} : ∀ (N fuel : Nat) (cells : List Value) (d : DataW H) (ps : List MemPlace), Rows.uptoBulk d <= N ->
  DataW.trod enc Tryz.prog W base sp held fuel 25 cells = some (d, ps) -> (∀ n ∈ d.weights Tryz.prog 25, n <= reachBytes) ->
  ∃ (k : Int) (T : ByteArray) (n : Nat) (A : Option Addr) (len c : Nat) (t : M.Tree), cells = [.int .i64 k, .string T, .int .u64 (n : Nat), .slice A len c] /\ NodeV W (.agg #[.int .i64 k, .string T, .int .u64 (n : Nat), .slice A len c]) t /\ t.kind = k /\ t.num = n /\ M.count t <= Rows.uptoBulk d := by
 intro N
 induction N with
 | zero =>
  intro fuel cells d ps hb ht _
  obtain ⟨ys, n', hn', hy, hlen, hyl, hf⟩ := DataW.trod_struct Tryz.underlying25 ht
  have hd : d = .agg (ys.map (·.1)) := congrArg Prod.fst hy
  rw [hd] at hb
  simp [Rows.uptoBulk] at hb
 | succ N ih =>
  intro fuel cells d ps hb ht hw
  obtain ⟨ys, n', hn', hy, hlen, hyl, hf⟩ := DataW.trod_struct Tryz.underlying25 ht
  have hC : Tryz.prog.cellsOf 25 = 4 := by kernel_rfl
  rw [hC] at hlen
  match cells, hlen with
  | [k0, k1, k2, k3], _ =>
  match ys, hyl with
  | [y0, y1, y2, y3], _ =>
  have f0 : DataW.trod enc Tryz.prog W base sp held n' 3 (([k0, k1, k2, k3].drop 0).take (Tryz.prog.cellsOf 3)) = [y0, y1, y2, y3][0]? := hf 0 _ rfl
  have f1 : DataW.trod enc Tryz.prog W base sp held n' 9 (([k0, k1, k2, k3].drop 1).take (Tryz.prog.cellsOf 9)) = [y0, y1, y2, y3][1]? := hf 1 _ rfl
  have f2 : DataW.trod enc Tryz.prog W base sp held n' 22 (([k0, k1, k2, k3].drop 2).take (Tryz.prog.cellsOf 22)) = [y0, y1, y2, y3][2]? := hf 2 _ rfl
  have f3 : DataW.trod enc Tryz.prog W base sp held n' 23 (([k0, k1, k2, k3].drop 3).take (Tryz.prog.cellsOf 23)) = [y0, y1, y2, y3][3]? := hf 3 _ rfl
  rw [show Tryz.prog.cellsOf 3 = 1 by kernel_rfl] at f0
  rw [show Tryz.prog.cellsOf 9 = 1 by kernel_rfl] at f1
  rw [show Tryz.prog.cellsOf 22 = 1 by kernel_rfl] at f2
  rw [show Tryz.prog.cellsOf 23 = 1 by kernel_rfl] at f3
  obtain ⟨z0, e0, _, w0⟩ := DataW.trod_int Tryz.underlying3 f0
  obtain ⟨s1, e1, g1, w1⟩ := DataW.trod_string Tryz.underlying9 f1
  obtain ⟨z2, e2, _, w2⟩ := DataW.trod_int Tryz.underlying22 f2
  simp at e0 e1 e2
  subst e0 e1 e2
  have hD : d = .agg ([y0, y1, y2, y3].map (·.1)) := congrArg Prod.fst hy
  have b0 := bounds_i64 w0
  have b2 := bounds_u64 w2
  obtain ⟨n2, rfl⟩ := Int.eq_ofNat_of_zero_le b2.1
  have hbulk : Rows.uptoBulk y3.1 + 1 <= Rows.uptoBulk d := by
   rw [hD]; simp only [Rows.uptoBulk, List.map_cons, List.map_nil, Rows.uptoBulkAll]; omega
  have hw' : ∀ (j : Nat) (t : TypeId) (e : DataW H), ([3, 9, 22, 23] : List TypeId)[j]? = some t -> ([y0, y1, y2, y3].map (·.1))[j]? = some e -> ∀ n ∈ e.weights Tryz.prog t, n <= reachBytes := by
   intro j t e h1 h2 n hn
   refine hw n ?_
   rw [hD]
   simp only [DataW.weights, Tryz.underlying25]
   exact DataW.weights_mem_each (j := j) (t := t) (d := e) h1 h2 n hn
  have hsz : s1.size <= reachBytes := by
   refine hw' 1 9 (.lit (.string s1.data.toList)) rfl ?_ _ (by simp [DataW.weights])
   rw [show y1 = (.lit (.string s1.data.toList), []) from g1]; rfl
  have hsz' : s1.size <= 140737488351232 := by unfold reachBytes at hsz; exact hsz
  have hw3 := hw' 3 23 y3.1 rfl rfl
  have hok : PartOk z0 n2 s1 := ⟨b0, by omega, hsz'⟩
  rcases open_slice Tryz.underlying23 f3 with ⟨hcs, _⟩ | ⟨x, l, c, m, n, D, Pl, hcs, hbb, hl, hm, hmm, hx, hi⟩
  ·simp at hcs
   subst hcs
   refine ⟨z0, s1, n2, none, 0, 0, .node z0 (M.bs s1) n2 [], rfl, ⟨s1, _, rfl, rfl, hok, KidsV.nil W⟩, rfl, rfl, ?_⟩
   rw [M.count, M.countL]; omega
  ·simp at hcs
   subst hcs
   have hx1 : y3.1 = _ := congrArg Prod.fst hx
   dsimp only at hx1
   rw [hx1] at hw3 hbulk
   have h56 : Tryz.prog.bytesOf 25 = 56 := by kernel_rfl
   simp only [DataW.weights, Tryz.underlying23] at hw3
   have hs := hw3 _ (List.mem_cons_self ..)
   rw [h56] at hs
   simp only [List.length_map, List.length_range, reachBytes] at hs
   have hbl : Rows.uptoBulkAll ((List.range l).map D) + 1 <= Rows.uptoBulk d - 1 := by
    simp only [Rows.uptoBulk] at hbulk
    omega
   have each : ∀ i, i < l -> ∃ t : M.Tree, (∃ (T : ByteArray) (A : Option Addr) (ln cp : Nat), W.cell? (x.add (i * 4)) = some (.int .i64 t.kind) /\ W.cell? ((x.add (i * 4)).add 1) = some (.string T) /\ W.cell? ((x.add (i * 4)).add 2) = some (.int .u64 (t.num : Nat)) /\ W.cell? ((x.add (i * 4)).add 3) = some (.slice A ln cp) /\ NodeV W (.agg #[.int .i64 t.kind, .string T, .int .u64 (t.num : Nat), .slice A ln cp]) t) /\ M.count t <= Rows.uptoBulk (D i) := by
    intro i hil
    have him : i < m := by rw [hmm]; split <;> omega
    obtain ⟨cs', hc, ht'⟩ := hi i him
    rw [hC] at hc
    have hmem : D i ∈ (List.range l).map D := List.mem_map_of_mem (List.mem_range.2 hil)
    have hle := bulk_mem9 hmem
    obtain ⟨k, T, nn, A, ln, cp, t, rfl, hN, rfl, rfl, hcount⟩ := ih n cs' (D i) (Pl i) (by omega) ht' (fun q hq => hw3 q (List.mem_cons_of_mem _ (List.mem_append_left _ (mem_wAll (d := D i) _ hmem hq))))
    obtain ⟨_, hcl, hat⟩ := World.cells?_some hc
    exact ⟨t, ⟨T, A, ln, cp, by simpa [Addr.add] using hat 0 (by decide), hat 1 (by decide), hat 2 (by decide), hat 3 (by decide), hN⟩, hcount⟩
   obtain ⟨ts, htl, hts⟩ := trees_list l each
   have hcb := count_bulk (D := D) l ts htl fun i hi => (hts i hi).2
   refine ⟨z0, s1, n2, some x, l, c, .node z0 (M.bs s1) n2 ts, rfl, ⟨s1, _, rfl, rfl, hok, some x, c, by show Value.slice _ _ _ = Value.slice _ ts.length _; rw [htl], by show ts.length <= c; omega, by show ts.length <= _; omega, fun h0 => ?_⟩, rfl, rfl, ?_⟩
   ·have h0 : 0 < ts.length := h0
    obtain ⟨b, off, spot⟩ := x
    obtain ⟨T0, A0, l0, p0, hc0, _⟩ := (hts 0 (by omega)).1
    have hspot : spot = none := by simpa [Addr.add] using World.cell?_spot hc0
    subst hspot
    refine ⟨b, off, rfl, by simpa [Addr.add] using World.block_lt_of_cell? W _ hc0, KidsAt.of fun i hil => ?_⟩
    have hil : i < ts.length := hil
    obtain ⟨T, A, ln, cp, q0, q1, q2, q3, hN⟩ := (hts i (by omega)).1
    rw [Go.Deep.add_add] at q1 q2 q3
    rw [Addr.add_lit] at q0 q1 q2 q3
    exact NodeAt.shut q0 (by rw [Nat.add_assoc]; exact q1) (by rw [Nat.add_assoc]; exact q2) (by rw [Nat.add_assoc]; exact q3) hN
   ·rw [M.count]; omega
theorem open_tree {H : Type} {enc : TypeId × Value -> H} {W : World} {base : Nat} {sp : Nat -> Bool} {held : Bool} {v : Value} {d : DataW H} {ps : List MemPlace} (h : DataW.Trod enc Tryz.prog W base sp held 25 v d ps) (hv : ∃ a, v = .agg a) (hw : ∀ n ∈ d.weights Tryz.prog 25, n <= reachBytes) : ∃ t, NodeV W v t /\ M.count t <= Rows.uptoBulk d := by
 obtain ⟨a, rfl⟩ := hv
 obtain ⟨fuel, hf⟩ := h
 obtain ⟨k, T, n, A, len, c, t, hc, hN, _, _, hcount⟩ := open_node_ind _ fuel _ d ps (Nat.le_refl _) hf hw
 have ha : a = #[.int .i64 k, .string T, .int .u64 (n : Nat), .slice A len c] := by
  have : a.toList = [.int .i64 k, .string T, .int .u64 (n : Nat), .slice A len c] := hc
  rw [<- Array.toList_inj, this]
 rw [ha]
 exact ⟨t, hN, hcount⟩

section
variable {H : Type} {enc : TypeId × Value -> H}
theorem returns_cond_and {a : Assume} {C : Checked} {os : Os} {f : FuncId} {fn : Func} {s : OpenSpec} {k : (H : Type) -> List (DataW H) -> Bool} (hk : s.cond = some k) {F : Stop.Interp} {conds : List PathCond} {apart fresh handsOn again : Bool} {X : World -> Array Value -> Prop}
  (hX : ∀ (w w' : World) (args : Array Value), w.heap = w'.heap -> X w args -> X w' args)
  (own : ownKnob C.prog.godebug = none) (started : os.Started) (noInit : C.prog.inits.idxOf? f = none) (hfn : C.prog.funcs[f]? = some fn)
  (witness : ∃ (w : World) (tape : Tape) (i : Input), w.os = os /\ (w.forCall tape i).Shaped C.prog /\ i.vars = [] /\ Input.okWide C.prog (w.forCall tape i) .any w.heap.size f i /\
   ((s.pre enc C.prog fn conds apart (w.forCall tape i).memory i.args /\ X (w.forCall tape i).memory i.args) /\ sizedMet enc C.prog fn s apart (w.forCall tape i).memory i.args) /\ a.holds C.prog (lone (Frame.enter C.prog f i.args .normal) [] (w.forCall tape i)))
  (contract : ∀ (W : World) (base : Nat) (args : Array Value) (ds gs : List (DataW H)) (before : List MemPlace),
   (∀ (j : Nat) t v, fn.params[j]? = some t -> args[j]? = some v -> Value.okWide C.prog W .any base t v) ->
   DataW.Whole enc C.prog fn.params.toList s.vars apart W args.toList ds gs before ->
   conds.all (PathCond.test C.prog ⟨fn.params.toList, ds, s.bare.plain.varTypes C.prog, gs⟩) = true -> k H (ds ++ gs) = true ->
   (DataW.weightsEach C.prog (fn.params.toList ++ s.bare.plain.varTypes C.prog) (ds ++ gs)).all (· <= reachBytes) = true -> X W args ->
   a.holds C.prog (lone (Frame.enter C.prog f args .normal) [] W) ->
   Calls C.prog f args W fun e W' => ∃ v, e = .returned v /\ (s.at F).post enc C.prog fn apart fresh handsOn again W args v W') :
  ReturnsInHanded a C os f .any (fun w args => (s.pre enc C.prog fn conds apart w args /\ X w args) /\ sizedMet enc C.prog fn s apart w args) ((s.at F).post enc C.prog fn apart fresh handsOn again) := by
 refine returnsInHanded_of_calls own started noInit witness ?_
 intro w tape i _ _ _ hok hpre hholds
 obtain ⟨_, _, _, fn', hfn', _, _, _, _, hval⟩ := hok
 have e : fn' = fn := Option.some.inj (hfn'.symm.trans hfn)
 subst e
 obtain ⟨⟨hp, hx⟩, hz⟩ := hpre
 obtain ⟨ds, gs, before, hw, hc, hkk⟩ := (OpenSpec.pre_some hk conds apart _ _).1 hp
 have hw' := DataW.Whole.of_heap (w' := w.forCall tape i) (by rfl) hw
 refine (contract (w.forCall tape i) w.heap.size i.args ds gs before hval hw' hc hkk (hz.weights hw) (hX _ _ _ (by rfl) hx) hholds).mono fun e W' ⟨v, he, hp⟩ => ?_
 subst he
 exact ChangeSpec.post_blind hp
theorem witness_cond {C : Checked} {os : Os} {f : FuncId} {fn : Func} {s : OpenSpec} {k : (H : Type) -> List (DataW H) -> Bool} (hk : s.cond = some k) {conds : List PathCond} {apart : Bool} {X : World -> Array Value -> Prop} (modest : Bool) (w0 : World) (args : Array Value) (fuel : Nat) (hos : w0.os = os)
  (hsh : (w0.forCall (fun _ _ => 0) ⟨#[], args, []⟩).Shaped C.prog)
  (hok : Input.okWideB C.prog (w0.forCall (fun _ _ => 0) ⟨#[], args, []⟩) f ⟨#[], args, []⟩ = true)
  {x : List (DataW H) × List (DataW H) × List MemPlace} (hx : DataW.whole enc C.prog (w0.forCall (fun _ _ => 0) ⟨#[], args, []⟩).memory fn.params.toList s.vars apart args.toList fuel = some x)
  (hconds : conds.all (PathCond.test C.prog ⟨fn.params.toList, x.1, s.bare.plain.varTypes C.prog, x.2.1⟩) = true) (hkk : k H (x.1 ++ x.2.1) = true)
  (hsz : s.bare.sizedB enc C.prog fn apart (w0.forCall (fun _ _ => 0) ⟨#[], args, []⟩).memory args fuel = true)
  (hX : X (w0.forCall (fun _ _ => 0) ⟨#[], args, []⟩).memory args) :
  ∃ (w : World) (tape : Tape) (i : Input), w.os = os /\ (w.forCall tape i).Shaped C.prog /\ i.vars = [] /\ Input.okWide C.prog (w.forCall tape i) .any w.heap.size f i /\
   ((s.pre enc C.prog fn conds apart (w.forCall tape i).memory i.args /\ X (w.forCall tape i).memory i.args) /\ sizedMet enc C.prog fn s apart (w.forCall tape i).memory i.args) /\ ({ modest := modest } : Assume).holds C.prog (lone (Frame.enter C.prog f i.args .normal) [] (w.forCall tape i)) :=
 ⟨w0, fun _ _ => 0, ⟨#[], args, []⟩, hos, hsh, (Input.okWide_of_okWideB (base := 0) hok).1, (Input.okWide_of_okWideB hok).2, ⟨⟨(OpenSpec.pre_some hk conds apart _ _).2 ⟨x.1, x.2.1, x.2.2, DataW.Whole_of_whole hx, hconds, hkk⟩, hX⟩, sizedMet_of_sizedB hsz⟩, by
  simp only [Assume.holds]
  exact ⟨by simp, by simp, fun _ => Modest.zero, by simp, by simp⟩⟩
end
end Go.Proofs.YtngpedcihajepaaGreatDoor
