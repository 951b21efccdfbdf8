/-
  Merged out of the texts Bl9.
-/
import Derived.WalkKit
import Derived.ProofKit
import Derived.OpenShut
import Derived.SizedLaws
import Derived.ChangeSlices
import Derived.ChangeMaps5
import Derived.OwnWalk
import Derived.Below
import Derived.WalkMore
import Derived.Deep.LoopGhost
import Derived.Lib.MinMax
import Derived.Defers
import Derived.Recover
import Derived.Test.YtngpedcihajepaaGreatDoorProg
import Derived.Deep.RegionHeld3
import Derived.Still
import Derived.Lib.Builder
import Derived.Lib.AppendStr
import Derived.Lib.UnsafeStr
import Derived.Laws.Externs
import Derived.Test.YtngpedcihajepaaGreatDoorShelf
import Derived.Maps.Own
import Derived.Maps.OwnOps
import Derived.Maps.Views
import Derived.Lib.MakeNoZero
import Derived.Laws.IdiomCopy
import Derived.Laws.BitsLemmas
import Derived.Shelf.Strings.BuilderX
import Derived.WalkSpells
import Derived.WalkLawsBesides
import Derived.Lib.Hide
import Derived.Deep.QuietTactic
import Derived.BigQuiet
import Derived.Deep.AppendLies
import Derived.Shelf.LaysM
import Derived.Shelf.Strconv.Itoa1
import Derived.Shelf.Strconv.Itoa2
import Derived.Lib.Walk
import Derived.Lib.ItoaMem
import Derived.BigCall
import Derived.BigGuard
import Derived.WalkSmall
import Derived.Test.YtngpedcihajepaaGreatDoorBa1
import Derived.Test.YtngpedcihajepaaGreatDoorBa2
import Derived.Test.YtngpedcihajepaaGreatDoorBa3
import Derived.Test.YtngpedcihajepaaGreatDoorBa4
import Derived.Test.YtngpedcihajepaaGreatDoorBa5
import Derived.Test.YtngpedcihajepaaGreatDoorBa6
import Derived.Test.YtngpedcihajepaaGreatDoorBa7
import Derived.Test.YtngpedcihajepaaGreatDoorBa8
import Derived.Test.YtngpedcihajepaaGreatDoorBa9
import Derived.Test.YtngpedcihajepaaGreatDoorBa10
import Derived.Test.YtngpedcihajepaaGreatDoorBa11
import Derived.Test.YtngpedcihajepaaGreatDoorBa12
import Derived.Test.YtngpedcihajepaaGreatDoorBa13
import Derived.Test.YtngpedcihajepaaGreatDoorBa14
import Derived.Test.YtngpedcihajepaaGreatDoorBa15
import Derived.Test.YtngpedcihajepaaGreatDoorBa16
import Derived.Test.YtngpedcihajepaaGreatDoorBa17
import Derived.Test.YtngpedcihajepaaGreatDoorBl1
import Derived.Test.YtngpedcihajepaaGreatDoorBl2
namespace Go.Proofs.YtngpedcihajepaaGreatDoor
open Go.ChangeShapes Go.WideShapes Go.ChangeAt Go.RowKit
set_option linter.unusedVariables false
set_option linter.unusedSimpArgs false
namespace M
/-- tokens behind gaps, the first of them of number i -/
def gapP (g : Nat → List Nat) : Nat → List Tok → List Pc
  | _, [] => []
  | i, t :: r => .g (g i) :: .t t.kind t.text :: gapP g (i + 1) r
theorem gapP_T (g : Nat → List Nat) : ∀ (ts : List Tok) (i : Nat), T (gapP g i ts) = ts.map er
  | [], _ => rfl
  | t :: r, i => by rw [gapP, T, T, gapP_T g r]; rfl
theorem gapP_app (g : Nat → List Nat) : ∀ (a b : List Tok) (i : Nat), gapP g i (a ++ b) = gapP g i a ++ gapP g (i + a.length) b
  | [], b, i => by simp [gapP]
  | t :: r, b, i => by
    rw [List.cons_append, gapP, gapP, gapP_app g r b (i + 1), List.length_cons, show i + 1 + r.length = i + (r.length + 1) by omega]; rfl
theorem reads_len {N : Nat} {l : List Nat} {ts : List Tok} {p : Nat} {e : Int} (h : Reads N l ts p e) : ts.length ≤ l.length := by
  induction h with
  | done => simp
  | bad _ _ => simp
  | @step l k t ts p e h1 hw _ ih =>
    have h2 := (skipL_suffix (l.drop t.length)).length_le
    have h3 := List.length_pos_iff.2 (word_tok hw).2.1
    obtain ⟨rest, rfl⟩ := (word_tok hw).2.2
    rw [List.length_drop, List.length_append] at h2
    rw [List.length_cons, List.length_append]
    omega
theorem tok_24 {k : Int} {s : List Nat} (h : tokB k s = true) : s.length ≤ 24 := by
  rcases tok_cases h with ⟨rfl, hk⟩ | ⟨rfl, hk⟩ | ⟨rfl, hk⟩
  · exact (isName_facts hk).2.1
  · have := (numE_zero hk).2.2; omega
  · rcases sign_cases hk with rfl | ⟨c, rfl, _⟩ <;> simp
/-- what a gap may be -/
def GapOk (l : List Nat) : Prop := Gap l ∧ Ends l ∧ l ≠ []
theorem gapP_ok {g : Nat → List Nat} (hg : ∀ i, GapOk (g i)) : ∀ (ts : List Tok) (i : Nat), (∀ t ∈ ts, tokB t.kind t.text = true) → OkP (gapP g i ts) []
  | [], _, _ => trivial
  | [t], i, h => ⟨(hg i).1, h t (by simp), .inr (.inl ends_nil), trivial⟩
  | t :: u :: r, i, h => by
    refine ⟨(hg i).1, h t (by simp), .inr (.inl ?_), gapP_ok hg (u :: r) (i + 1) fun x hx => h x (List.mem_cons_of_mem _ hx)⟩
    obtain ⟨_, he, hne⟩ := hg (i + 1)
    rw [gapP, flat_cons]
    show Ends ((g (i + 1) ++ _) ++ [])
    cases hgi : g (i + 1) with
    | nil => exact absurd hgi hne
    | cons c q =>
      rw [hgi] at he
      intro d hd
      exact he d (by simpa using hd)
def gapL (k : Nat) : List Nat := if k = 0 then [32] else if k = 1 then [10] else if k = 2 then [9, 32] else if k = 3 then [47, 47, 32, 59, 32, 123, 10] else [32, 32, 13, 10]
theorem gapL_ok (k : Nat) : GapOk (gapL k) := by
  unfold gapL
  split
  · exact ⟨gap_blank (by decide), ends_cons (by decide) (by decide), by decide⟩
  split
  · exact ⟨gap_blank (by decide), ends_cons (by decide) (by decide), by decide⟩
  split
  · exact ⟨gap_blank (by decide), ends_cons (by decide) (by decide), by decide⟩
  split
  · refine ⟨fun rest => ?_, ends_cons (by decide) (by decide), by decide⟩
    show skipL (47 :: 47 :: 32 :: 59 :: 32 :: 123 :: 10 :: rest) = skipL rest
    rw [skipL, if_neg (by decide), if_pos (by simp)]
    rw [show (47 :: 32 :: 59 :: 32 :: 123 :: 10 :: rest).dropWhile (fun c => c != 10) = 10 :: rest from rfl]
    rw [skipL, if_pos (by decide)]
  · exact ⟨gap_blank (by decide), ends_cons (by decide) (by decide), by decide⟩
/-- the gap before token i -/
def gapAt (zs : List Nat) (i : Nat) : List Nat := if i < zs.length then gapL (zs.getD i 0 % 5) else [32]
theorem gapAt_ok (zs : List Nat) (i : Nat) : GapOk (gapAt zs i) := by
  unfold gapAt
  split
  · exact gapL_ok _
  · exact gapL_ok 0
end M
/-- blanks and comments between tokens change neither the tree nor the error -/
theorem parse_gaps {L : List Nat} {ts : List M.Tok} (hr : ReadsT L ts 0 0) {g : Nat → List Nat} (hg : ∀ i, M.GapOk (g i)) {t1 t2 : M.Tree} {a1 a2 : Nat} {E1 E2 : Int} (h1 : ParseIs L t1 a1 E1) (h2 : ParseIs (M.flat (M.gapP g 0 ts)) t2 a2 E2) (hl : (M.flat (M.gapP g 0 ts)).length ≤ 20000) : t1 = t2 ∧ E1 = E2 := by
  obtain ⟨ts1, p1, e1, hr1, h1⟩ := h1
  obtain ⟨rfl, rfl, rfl⟩ := hr1.one hr
  rw [if_pos rfl] at h1
  have htk : ∀ t ∈ ts1, M.tokB t.kind t.text = true := by
    rcases hr with ⟨_, rfl, _, _⟩ | ⟨_, hr⟩
    · intro t ht; cases ht
    · exact hr.toks
  have ho := M.gapP_ok hg ts1 0 htk
  obtain ⟨ts2, p2, e2, hr2, h2⟩ := h2
  obtain ⟨rfl, rfl, rfl⟩ := hr2.one (.inr ⟨hl, M.reads_at _ _ ho⟩)
  rw [if_pos rfl] at h2
  have he : ts1.map M.er = (M.TN (M.flat (M.gapP g 0 ts1)).length (M.gapP g 0 ts1)).map M.er := by rw [M.T_er (M.TN_toks _ _), M.gapP_T]
  obtain ⟨x, y⟩ := M.parseR_er L.length (M.flat (M.gapP g 0 ts1)).length he
  rw [← h1, ← h2] at x y
  exact ⟨x, y⟩
/-- a []uint8 value reads as a list of numbers -/
def BytesV (w : World) (v : Value) (zs : List Nat) : Prop := zs.length ≤ 140737488355328 ∧ ∃ a cap, v = .slice a zs.length cap ∧ zs.length ≤ cap ∧ (0 < zs.length → ∃ b off, a = some ⟨b, off, none⟩ ∧ b < w.heap.size ∧ ∀ i, i < zs.length → w.cell? ⟨b, off + i, none⟩ = some (.int .u8 (zs.getD i 0 : Nat)) ∧ zs.getD i 0 < 256)
set_option maxRecDepth 100000 in
theorem open_bytes9 {H : Type} {enc : TypeId × Value → H} {W : World} {base : Nat} {sp : Nat → Bool} {held : Bool} {v : Value} {d : DataW H} {ps : List MemPlace} {a : Option Addr} {len cap : Nat} (hv : v = .slice a len cap)
    (h : DataW.Trod enc Tryz.prog W base sp held 38 v d ps) (hw : ∀ n ∈ d.weights Tryz.prog 38, n ≤ reachBytes) : ∃ zs, BytesV W v zs := by
  subst hv
  obtain ⟨fuel, hf⟩ := h
  rcases open_ints Tryz.underlying38 Tryz.underlying5 (by kernel_rfl) hf with ⟨hcs, _⟩ | ⟨x, l, c, zs, hcs, _, hl, hm, hz, hx, hcell, hwz⟩
  · simp [Value.cells] at hcs
    obtain ⟨rfl, rfl, rfl⟩ := hcs
    exact ⟨[], by simp, none, 0, rfl, Nat.le_refl _, fun h => by simp at h⟩
  · simp [Value.cells] at hcs
    obtain ⟨rfl, rfl, rfl⟩ := hcs
    have hzl : len ≤ zs.length := by rw [hz]; split <;> omega
    have hb : ∀ i, i < len → ∃ n : Nat, zs.getD i 0 = (n : Int) ∧ n < 256 := fun i hi => by
      have hmem : zs.getD i 0 ∈ zs := by
        rw [List.getD_eq_getElem?_getD, List.getElem?_eq_getElem (by omega)]; exact List.getElem_mem _
      have hb := bounds_u8 (hwz _ hmem)
      exact ⟨(zs.getD i 0).toNat, by omega, by omega⟩
    obtain ⟨ns, hnl, hns⟩ : ∃ ns : List Nat, ns.length = len ∧ ∀ i, i < len → zs.getD i 0 = (ns.getD i 0 : Nat) ∧ ns.getD i 0 < 256 := by
      refine ⟨(List.range len).map fun i => (zs.getD i 0).toNat, by simp, fun i hi => ?_⟩
      have e : ((List.range len).map fun i => (zs.getD i 0).toNat).getD i 0 = (zs.getD i 0).toNat := by
        rw [List.getD_eq_getElem?_getD, List.getElem?_map, List.getElem?_range hi]; rfl
      obtain ⟨n, h1, h2⟩ := hb i hi
      rw [e, h1]
      exact ⟨by simp, by simpa using h2⟩
    have hs := hw ((len + ((zs.drop len).length)) * 1) (by
      have hx1 := congrArg Prod.fst hx
      dsimp only at hx1
      rw [hx1]
      simp only [DataW.weights, Tryz.underlying38]
      rw [show Tryz.prog.bytesOf 5 = 1 by kernel_rfl]
      refine List.mem_cons.2 (.inl ?_)
      simp only [lits, List.length_map, List.length_take, List.length_drop]
      rw [Nat.min_eq_left hzl])
    refine ⟨ns, by unfold reachBytes at hs; omega, some x, cap, by rw [hnl], by omega, fun h0 => ?_⟩
    obtain ⟨b, off, spot⟩ := x
    have hc0 := hcell 0 (by omega)
    have hspot : spot = none := by simpa [Addr.add] using World.cell?_spot hc0
    subst hspot
    refine ⟨b, off, rfl, by simpa [Addr.add] using World.block_lt_of_cell? W _ hc0, fun i hi => ?_⟩
    have := hcell i (by omega)
    rw [(hns i (by omega)).1, Addr.add_lit] at this
    exact ⟨this, (hns i (by omega)).2⟩
end Go.Proofs.YtngpedcihajepaaGreatDoor
