/-
  Tokens: rows of tokens that a call makes; what Read answers.
-/
import Derived.Test.YtagdbbikhegoaaaDoorKl
import Derived.Test.YtagdbbikhegoaaaDoorKj
namespace Go.Proofs.YtagdbbikhegoaaaDoor
open Go.RowKit
set_option linter.unusedVariables false
set_option maxRecDepth 100000

theorem own_below {w w' : World} {base : Nat} {e : TypeId} {size : Nat} {v : Value} {n : Nat} {xs : List Value} (h : w.ownsRow base e size v n xs) (hb : Below w.heap.size w w') : w'.ownsRow base e size v n xs := by
  obtain ⟨h1, h2⟩ := h
  refine ⟨h1, ?_⟩
  rcases h2 with h2 | ⟨g, cap, cur, hv, hg, hh, r⟩
  · exact .inl h2
  · exact .inr ⟨g, cap, cur, hv, hg, (hb.block g (Array.getElem?_eq_some_iff.1 hh).1).trans hh, r⟩
theorem infoTok : (Tryd.prog.info? 39).map (fun i => (i.zero, i.size, i.bytes)) = some (some (.agg #[.int .i64 0, .string ⟨#[]⟩, .int .i64 0]), 3, 32) := by kernel_rfl
/-- the cells of a list of tokens -/
def tokCells : List T8 → List Value
  | [] => []
  | t :: r => .int .i64 t.kind :: .string t.text :: .int .i64 t.off :: tokCells r
theorem tokCells_len : ∀ ts : List T8, (tokCells ts).length = ts.length * 3
  | [] => rfl
  | t :: r => by simp only [tokCells, List.length_cons, tokCells_len r]; omega
theorem tokCells_app : ∀ (a b : List T8), tokCells (a ++ b) = tokCells a ++ tokCells b
  | [], b => rfl
  | t :: r, b => by simp only [List.cons_append, tokCells, tokCells_app r b]
theorem tokCells_get : ∀ (ts : List T8) (i : Nat), i < ts.length → (tokCells ts)[i * 3]? = some (.int .i64 (ts.getD i T8.no).kind) ∧ (tokCells ts)[i * 3 + 1]? = some (.string (ts.getD i T8.no).text) ∧ (tokCells ts)[i * 3 + 2]? = some (.int .i64 (ts.getD i T8.no).off)
  | [], i, h => by simp at h
  | t :: r, 0, h => ⟨rfl, rfl, rfl⟩
  | t :: r, i + 1, h => by
    have ih := tokCells_get r i (by simpa using h)
    rw [show (i + 1) * 3 = i * 3 + 3 by omega]
    exact ih
theorem toks_of_own {w : World} {base : Nat} {v : Value} {ts : List T8} (hl : ts.length ≤ 20000) (h : w.ownsRow base 39 3 v ts.length (tokCells ts)) : TokS w v ts := by
  have hlt := h.lt
  have hcells := fun g hg => h.cells (g := g) hg
  rcases h.2 with ⟨rfl, h0⟩ | ⟨g, cap, cur, rfl, hb, hg, hc, _⟩
  · exact ⟨by omega, none, 0, by rw [h0], by omega, fun h => by omega⟩
  · refine ⟨by omega, some ⟨g, 0, none⟩, cap, rfl, hc, fun _ => ⟨g, 0, rfl, (hlt g rfl).2, fun i hi => ?_⟩⟩
    obtain ⟨c0, c1, c2⟩ := tokCells_get ts i hi
    have e0 := hcells g rfl (i * 3) _ c0
    have e1 := hcells g rfl (i * 3 + 1) _ c1
    have e2 := hcells g rfl (i * 3 + 2) _ c2
    rw [Addr.add_lit] at e0 e1 e2
    exact ⟨e0, by rw [Nat.add_assoc]; exact e1, by rw [Nat.add_assoc]; exact e2⟩
theorem TokS.nil (w : World) : TokS w (.slice none 0 0) [] := ⟨by simp, none, 0, rfl, by simp, fun h => by simp at h⟩

/-- a list of tokens of the program's reads as a list of tokens -/
def View (A : List T8) (ts : List M.Tok) : Prop := A.map (fun t => (t.kind, M.bs t.text, t.off)) = ts.map (fun t => (t.kind, t.text, (t.at_ : Int)))
theorem View.nil : View [] [] := rfl
theorem View.snoc {A : List T8} {ts : List M.Tok} (h : View A ts) {t : T8} {u : M.Tok} (h1 : t.kind = u.kind) (h2 : M.bs t.text = u.text) (h3 : t.off = (u.at_ : Int)) : View (A ++ [t]) (ts ++ [u]) := by
  unfold View at h ⊢
  rw [List.map_append, List.map_append, h, List.map_singleton, List.map_singleton, h1, h2, h3]
theorem View.one {A B : List T8} {ts : List M.Tok} (h : View A ts) (h2 : View B ts) : A = B := by
  unfold View at h h2
  refine (List.map_inj_right (fun x y hxy => ?_)).1 (h.trans h2.symm)
  obtain ⟨k, t, o⟩ := x
  obtain ⟨k', t', o'⟩ := y
  simp only [Prod.mk.injEq] at hxy
  obtain ⟨rfl, h5, rfl⟩ := hxy
  rw [M.bs_inj h5]
theorem View.len {A : List T8} {ts : List M.Tok} (h : View A ts) : A.length = ts.length := by
  have := congrArg List.length h
  simpa using this
/-- what a text is read as -/
def ReadsT (L : List Nat) (ts : List M.Tok) (p : Nat) (e : Int) : Prop := (20000 < L.length ∧ ts = [] ∧ p = 0 ∧ e = 3) ∨ (L.length ≤ 20000 ∧ M.Reads L.length (M.skipL L) ts p e)
theorem ReadsT.one {L : List Nat} {ts ts' : List M.Tok} {p p' : Nat} {e e' : Int} (h : ReadsT L ts p e) (h' : ReadsT L ts' p' e') : ts = ts' ∧ p = p' ∧ e = e' := by
  rcases h with ⟨h1, rfl, rfl, rfl⟩ | ⟨h1, h2⟩
  · rcases h' with ⟨_, rfl, rfl, rfl⟩ | ⟨h3, _⟩
    · exact ⟨rfl, rfl, rfl⟩
    · omega
  · rcases h' with ⟨h3, _⟩ | ⟨_, h4⟩
    · omega
    · exact h2.one h4
/-- what Read answers: the tokens ts (A, in the program's memory), or the error and its offset -/
def ReadEnd (s : ByteArray) (w : World) (e : Ending) (w' : World) : Prop :=
  ∃ A ts v p E, e = .returned (.tuple #[v, .int .i64 (p : Nat), .int .i64 E]) ∧ TokS w' v A ∧ ReadsT (M.bs s) ts p E ∧ (E = 0 → View A ts) ∧ (E ≠ 0 → A = []) ∧ Below w.heap.size w w'
theorem read_long {s : ByteArray} {w w' : World} (h : 20000 < s.size) (hb : Below w.heap.size w w') : ReadEnd s w (.returned (.tuple #[.slice none 0 0, .int .i64 0, .int .i64 3])) w' :=
  ⟨[], [], _, 0, 3, rfl, TokS.nil _, .inl ⟨by rw [M.bs_len]; exact h, rfl, rfl, rfl⟩, fun h => absurd h (by decide), fun _ => rfl, hb⟩
theorem read_bad {s : ByteArray} {w w' : World} {i : Nat} {E : Int} {ts : List M.Tok} (h : s.size ≤ 20000) (hE : E ≠ 0) (hr : M.Reads s.size (M.skipL (M.bs s)) ts i E) (hb : Below w.heap.size w w') : ReadEnd s w (.returned (.tuple #[.slice none 0 0, .int .i64 (i : Nat), .int .i64 E])) w' :=
  ⟨[], ts, _, i, E, rfl, TokS.nil _, .inr ⟨by rw [M.bs_len]; exact h, by rw [M.bs_len]; exact hr⟩, fun h => absurd h hE, fun _ => rfl, hb⟩
theorem read_ok {s : ByteArray} {w w' : World} {v : Value} {A : List T8} {ts : List M.Tok} (h : s.size ≤ 20000) (hv : TokS w' v A) (hA : View A ts) (hr : M.Reads s.size (M.skipL (M.bs s)) ts 0 0) (hb : Below w.heap.size w w') : ReadEnd s w (.returned (.tuple #[v, .int .i64 0, .int .i64 0])) w' :=
  ⟨A, ts, _, 0, 0, rfl, hv, .inr ⟨by rw [M.bs_len]; exact h, by rw [M.bs_len]; exact hr⟩, fun _ => hA, fun h => absurd rfl h, hb⟩
/-- what has been read so far -/
def Sofar (s : ByteArray) (i : Nat) (ts : List M.Tok) : Prop := ∀ ts' p E, M.Reads s.size ((M.bs s).drop i) ts' p E → M.Reads s.size (M.skipL (M.bs s)) (ts ++ ts') p E
theorem Sofar.start (s : ByteArray) : Sofar s (M.skipAt (M.bs s) 0) [] := fun ts' p E h => by
  rw [M.drop_skipAt, List.drop_zero] at h
  exact h
theorem Sofar.bad {s : ByteArray} {i : Nat} {ts : List M.Tok} {k : Int} {t : List Nat} {E : Int} (h : Sofar s i ts) (hi : i < s.size) (hw : M.wordL ((M.bs s).drop i) = (E, k, t)) (hE : E ≠ 0) : M.Reads s.size (M.skipL (M.bs s)) (ts ++ []) i E := by
  have hl : ((M.bs s).drop i).length = s.size - i := by rw [List.length_drop, M.bs_len]
  have := M.Reads.bad (N := s.size) (l := (M.bs s).drop i) (by intro e; rw [e] at hl; simp at hl; omega) (by rw [hw]; exact hE)
  rw [hl, hw, show s.size - (s.size - i) = i by omega] at this
  exact h _ _ _ this
theorem Sofar.more {s : ByteArray} {i j : Nat} {ts : List M.Tok} {k : Int} {t : List Nat} (h : Sofar s i ts) (hi : i < s.size) (hw : M.wordL ((M.bs s).drop i) = (0, k, t)) (hj : (M.bs s).drop j = M.skipL ((M.bs s).drop (i + t.length))) : Sofar s j (ts ++ [⟨k, t, i⟩]) := by
  intro ts' p E hr
  have hl : ((M.bs s).drop i).length = s.size - i := by rw [List.length_drop, M.bs_len]
  have := M.Reads.step (N := s.size) (l := (M.bs s).drop i) (by intro e; rw [e] at hl; simp at hl; omega) hw (ts := ts') (p := p) (e := E) (by rw [List.drop_drop, ← hj]; exact hr)
  rw [hl, show s.size - (s.size - i) = i by omega] at this
  rw [List.append_assoc]
  exact h _ _ _ this
theorem Sofar.done {s : ByteArray} {ts : List M.Tok} (h : Sofar s s.size ts) : M.Reads s.size (M.skipL (M.bs s)) (ts ++ []) 0 0 := by
  refine h _ _ _ ?_
  rw [List.drop_eq_nil_of_le (by rw [M.bs_len]; omega)]
  exact .done
end Go.Proofs.YtagdbbikhegoaaaDoor
