/-
  Tokens: what Write answers; the texts joined; a row of strings under construction.
-/
import Derived.Test.YtagdbbikhegoaaaDoorKw
import Derived.Test.YtagdbbikhegoaaaDoorShelf
namespace Go.Proofs.YtagdbbikhegoaaaDoor
open Go.RowKit
set_option linter.unusedVariables false
set_option maxRecDepth 100000
namespace M
theorem tok_short {k : Int} {t : List Nat} (h : tokB k t = true) : t.length ≤ 24 := by
  rcases tok_cases h with ⟨_, h⟩ | ⟨_, h⟩ | ⟨_, h⟩
  · exact (isName_facts h).2.1
  · have := (numE_zero h).2.2; omega
  · rcases sign_cases h with rfl | ⟨c, rfl, _⟩ <;> simp
theorem joinL_snoc (t : List Nat) : ∀ l : List (List Nat), joinL (l ++ [t]) = if l = [] then t else joinL l ++ 32 :: t
  | [] => rfl
  | [a] => rfl
  | a :: b :: r => by
    have ih := joinL_snoc t (b :: r)
    rw [if_neg (by simp)] at ih ⊢
    show a ++ 32 :: joinL ((b :: r) ++ [t]) = (a ++ 32 :: joinL (b :: r)) ++ 32 :: t
    rw [ih]; simp
theorem joinL_len : ∀ l : List (List Nat), (∀ t ∈ l, t.length ≤ 24) → (joinL l).length ≤ 25 * l.length
  | [], _ => by simp [joinL]
  | [a], h => by have := h a (by simp); simp [joinL]; omega
  | a :: b :: r, h => by
    have ih := joinL_len (b :: r) (fun t ht => h t (List.mem_cons_of_mem _ ht))
    have := h a (by simp)
    show (a ++ 32 :: joinL (b :: r)).length ≤ _
    simp only [List.length_append, List.length_cons] at ih ⊢
    omega
theorem join_is (sep : List UInt8) (hsep : sep = [32]) : ∀ xs : List ByteArray, (Lib.join (xs.map (·.data.toList)) sep).map UInt8.toNat = joinL (xs.map bs)
  | [] => rfl
  | [a] => by simp [Lib.join_one, joinL, bs]
  | a :: b :: r => by
    have ih := join_is sep hsep (b :: r)
    show (Lib.join (a.data.toList :: b.data.toList :: r.map (·.data.toList)) sep).map UInt8.toNat = bs a ++ 32 :: joinL ((b :: r).map bs)
    rw [← ih]
    show _ = bs a ++ 32 :: (Lib.join (b.data.toList :: r.map (·.data.toList)) sep).map UInt8.toNat
    rw [Lib.join_cons, Lib.join_cons]
    unfold Lib.joinTail
    subst hsep
    simp [bs]
end M
/-- is a token sound? -/
def okT (t : T8) : Bool := decide (M.tokE t.kind (M.bs t.text) t.off = 0)
/-- the texts of tokens -/
def textsT (ts : List T8) : List (List Nat) := ts.map fun t => M.bs t.text
/-- the error of Write -/
def writeE (ts : List T8) : Int := if 20000 < ts.length then 3 else if ts.all okT = false then 4 else if 20000 < (M.joinL (textsT ts)).length then 3 else 0
theorem tokE_cases (k : Int) (t : List Nat) (a : Int) : M.tokE k t a = 0 ∨ M.tokE k t a = 4 := by
  unfold M.tokE
  split
  · exact .inl rfl
  · exact .inr rfl
theorem okT_tok {t : T8} (h : okT t = true) : M.tokB t.kind (M.bs t.text) = true ∧ 0 ≤ t.off := by
  unfold okT M.tokE at h
  by_cases hh : M.tokB t.kind (M.bs t.text) = true ∧ 0 ≤ t.off
  · exact hh
  · rw [if_neg hh] at h; simp at h
theorem okT_bad {ts : List T8} {k : Nat} (hk : k < ts.length) (h : okT (ts.getD k T8.no) = false) : ts.all okT = false := by
  cases e : ts.all okT with
  | false => rfl
  | true =>
    rw [List.all_eq_true] at e
    have := e (ts.getD k T8.no) (by rw [List.getD_eq_getElem?_getD, List.getElem?_eq_getElem hk]; exact List.getElem_mem hk)
    rw [this] at h; cases h
theorem okT_all {ts : List T8} (h : ∀ j, j < ts.length → okT (ts.getD j T8.no) = true) : ts.all okT = true := by
  rw [List.all_eq_true]
  intro t ht
  obtain ⟨j, hj, rfl⟩ := List.getElem_of_mem ht
  have := h j hj
  rwa [List.getD_eq_getElem?_getD, List.getElem?_eq_getElem hj] at this
theorem texts_short {ts : List T8} (h : ts.all okT = true) : ∀ t ∈ textsT ts, t.length ≤ 24 := by
  intro t ht
  obtain ⟨u, hu, rfl⟩ := List.mem_map.1 ht
  exact M.tok_short (okT_tok (List.all_eq_true.1 h u hu)).1
theorem texts_len {ts : List T8} (h : ts.all okT = true) : (M.joinL (textsT ts)).length ≤ 25 * ts.length := by
  have := M.joinL_len (textsT ts) (texts_short h)
  unfold textsT at this ⊢
  rwa [List.length_map] at this
/-- what Write answers -/
def WriteEnd (ts : List T8) (w : World) (e : Ending) (w' : World) : Prop :=
  ∃ T : ByteArray, e = .returned (.tuple #[.string T, .int .i64 (writeE ts)]) ∧ M.bs T = (if writeE ts = 0 then M.joinL (textsT ts) else []) ∧ Below w.heap.size w w'
theorem write_no {ts : List T8} {w w' : World} {E : Int} (h : writeE ts = E) (hE : E ≠ 0) (hb : Below w.heap.size w w') : WriteEnd ts w (.returned (.tuple #[.string ⟨#[]⟩, .int .i64 E])) w' :=
  ⟨⟨#[]⟩, by rw [h], by rw [h, if_neg hE]; rfl, hb⟩
theorem write_ok {ts : List T8} {w w' : World} {T : ByteArray} (h : writeE ts = 0) (hT : M.bs T = M.joinL (textsT ts)) (hb : Below w.heap.size w w') : WriteEnd ts w (.returned (.tuple #[.string T, .int .i64 0])) w' :=
  ⟨T, by rw [h], by rw [h, if_pos rfl]; exact hT, hb⟩
theorem writeE_many {ts : List T8} (h : 20000 < ts.length) : writeE ts = 3 := by unfold writeE; rw [if_pos h]
theorem writeE_bad {ts : List T8} (h : ¬ 20000 < ts.length) (h2 : ts.all okT = false) : writeE ts = 4 := by unfold writeE; rw [if_neg h, if_pos h2]
theorem writeE_long {ts : List T8} (h : ¬ 20000 < ts.length) (h2 : ts.all okT = true) (h3 : 20000 < (M.joinL (textsT ts)).length) : writeE ts = 3 := by unfold writeE; rw [if_neg h, if_neg (by rw [h2]; decide), if_pos h3]
theorem writeE_ok {ts : List T8} (h : ¬ 20000 < ts.length) (h2 : ts.all okT = true) (h3 : ¬ 20000 < (M.joinL (textsT ts)).length) : writeE ts = 0 := by unfold writeE; rw [if_neg h, if_neg (by rw [h2]; decide), if_neg h3]

/-- tokens of an argument: their numbers are ints, their texts are no longer than memory allows -/
def TokIn (ts : List T8) : Prop := ∀ t ∈ ts, t.text.size ≤ 140737488351232 ∧ -9223372036854775808 ≤ t.kind ∧ t.kind ≤ 9223372036854775807 ∧ -9223372036854775808 ≤ t.off ∧ t.off ≤ 9223372036854775807
theorem infoStr : (Tryd.prog.info? 9).map (fun i => (i.zero, i.size, i.bytes)) = some (some (.string ⟨#[]⟩), 1, 16) := by kernel_rfl
/-- the cells of the texts after k rounds -/
def wordCells (ts : List T8) (k : Nat) : List Value := (List.range ts.length).map fun j => Value.string (if j < k then (ts.getD j T8.no).text else ⟨#[]⟩)
theorem wordCells_len (ts : List T8) (k : Nat) : (wordCells ts k).length = ts.length := by simp [wordCells]
theorem wordCells_get (ts : List T8) (k : Nat) {j : Nat} (h : j < ts.length) : (wordCells ts k)[j]? = some (.string (if j < k then (ts.getD j T8.no).text else ⟨#[]⟩)) := by simp [wordCells, h]
theorem wordCells_start (ts : List T8) : (madeCells #[Value.string ⟨#[]⟩] ts.length).toList = wordCells ts 0 := by
  apply List.ext_getElem?
  intro j
  by_cases hj : j < ts.length
  · rw [wordCells_get ts 0 hj]
    simp [madeCells, hj, Nat.mod_one]
  · rw [List.getElem?_eq_none (l := wordCells ts 0) (by rw [wordCells_len]; omega), List.getElem?_eq_none (by simp [madeCells]; omega)]
theorem wordCells_step (ts : List T8) {k : Nat} (h : k < ts.length) : (wordCells ts k).set k (.string (ts.getD k T8.no).text) = wordCells ts (k + 1) := by
  apply List.ext_getElem?
  intro j
  rw [List.getElem?_set]
  by_cases hj : j < ts.length
  · rw [wordCells_get ts _ hj, wordCells_get ts _ hj]
    by_cases he : k = j
    · subst he
      rw [if_pos rfl, if_pos (by rw [wordCells_len]; exact hj), if_pos (by omega)]
    · rw [if_neg he]
      by_cases h1 : j < k
      · rw [if_pos h1, if_pos (by omega)]
      · rw [if_neg h1, if_neg (by omega)]
  · rw [if_neg (by omega), List.getElem?_eq_none (by rw [wordCells_len]; omega), List.getElem?_eq_none (by rw [wordCells_len]; omega)]
end Go.Proofs.YtagdbbikhegoaaaDoor
