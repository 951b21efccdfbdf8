/-
  Tokens: what is written is read back.
-/
import Derived.Test.YtagdbbikhegoaaaWa
namespace Go.Proofs.Ytagdbbikhegoaaa
open Go.RowKit
set_option linter.unusedVariables false
set_option maxRecDepth 100000
def M.tkNo : M.Tok := ⟨0, [], 0⟩
theorem M.Rise.at {lo : Nat} {ts : List M.Tok} (h : M.Rise lo ts) : ∀ j, j + 1 < ts.length → (ts.getD j M.tkNo).at_ < (ts.getD (j + 1) M.tkNo).at_ := by
  induction ts generalizing lo with
  | nil => intro j hj; simp at hj
  | cons t r ih =>
    intro j hj
    obtain ⟨h1, h2⟩ := h
    cases j with
    | zero =>
      cases r with
      | nil => simp at hj
      | cons u r => exact h2.1
    | succ j => exact ih h2 j (by simpa using hj)
theorem View.get {A : List T8} {ts : List M.Tok} (h : View A ts) {i : Nat} (hi : i < A.length) : (A.getD i T8.no).kind = (ts.getD i M.tkNo).kind ∧ M.bs (A.getD i T8.no).text = (ts.getD i M.tkNo).text ∧ (A.getD i T8.no).off = ((ts.getD i M.tkNo).at_ : Int) := by
  have hts : i < ts.length := by rw [← h.len]; exact hi
  have h2 := congrArg (fun l => l[i]?) h
  simp only [List.getElem?_map, List.getElem?_eq_getElem hts, List.getElem?_eq_getElem hi, Option.map_some, Option.some.injEq, Prod.mk.injEq] at h2
  rw [List.getD_eq_getElem?_getD, List.getElem?_eq_getElem hi, List.getD_eq_getElem?_getD, List.getElem?_eq_getElem hts]
  exact h2
/-- tokens that are read are sound -/
theorem read_sound {A : List T8} {ts : List M.Tok} {L : List Nat} {p : Nat} {e : Int} (hv : View A ts) (hr : ReadsT L ts p e) : A.all okT = true := by
  refine okT_all fun j hj => ?_
  obtain ⟨h1, h2, h3⟩ := hv.get hj
  have hts : j < ts.length := by rw [← hv.len]; exact hj
  rcases hr with ⟨_, rfl, _, _⟩ | ⟨_, hr⟩
  · simp at hts
  · have ht := hr.toks (ts.getD j M.tkNo) (by rw [List.getD_eq_getElem?_getD, List.getElem?_eq_getElem hts]; exact List.getElem_mem hts)
    unfold okT M.tokE
    rw [h1, h2, h3, if_pos ⟨ht, by omega⟩]; rfl
theorem back8 {A : List T8} (hok : A.all okT = true) (hlen : ¬ 20000 < (M.joinL (textsT A)).length) {A2 : List T8} {ts2 : List M.Tok} {p2 : Nat} {E2 : Int} (hr : ReadsT (M.joinL (textsT A)) ts2 p2 E2) (hv : E2 = 0 → View A2 ts2) :
    E2 = 0 ∧ p2 = 0 ∧ A2.length = A.length ∧ (∀ i, i < A2.length → (A2.getD i T8.no).kind = (A.getD i T8.no).kind ∧ (A2.getD i T8.no).text = (A.getD i T8.no).text) ∧ (∀ j, j + 1 < A2.length → (A2.getD j T8.no).off < (A2.getD (j + 1) T8.no).off) := by
  obtain ⟨l, el⟩ : ∃ l : List M.Tok, l = A.map fun t => ⟨t.kind, M.bs t.text, 0⟩ := ⟨_, rfl⟩
  have hlt : l.map (·.text) = textsT A := by rw [el, List.map_map]; rfl
  have hl : ∀ t ∈ l, M.tokB t.kind t.text = true := by
    intro t ht
    rw [el] at ht
    obtain ⟨u, hu, rfl⟩ := List.mem_map.1 ht
    exact (okT_tok (List.all_eq_true.1 hok u hu)).1
  obtain ⟨ts', h1, h2, h3⟩ := M.reads_join (M.joinL (textsT A)).length l hl (by rw [hlt]; omega)
  have hsk := M.skip_join hl
  rw [hlt] at h1 hsk
  obtain ⟨rfl, rfl, rfl⟩ := hr.one (.inr ⟨by omega, by rw [hsk]; exact h1⟩)
  have hview := hv rfl
  have hlen2 : ts2.length = l.length := by have := congrArg List.length h2; simpa using this
  have hlA : l.length = A.length := by rw [el, List.length_map]
  refine ⟨rfl, rfl, by rw [hview.len, hlen2, hlA], fun i hi => ?_, fun j hj => ?_⟩
  · obtain ⟨e1, e2, _⟩ := hview.get hi
    have hts : i < ts2.length := by rw [← hview.len]; exact hi
    have hiA : i < A.length := by omega
    have h4 := congrArg (fun l => l[i]?) h2
    simp only [el, List.getElem?_map, List.getElem?_eq_getElem hts, List.getElem?_eq_getElem hiA, Option.map_some, Option.some.injEq, Prod.mk.injEq] at h4
    rw [e1]
    rw [List.getD_eq_getElem?_getD (l := ts2), List.getElem?_eq_getElem hts] at e2 ⊢
    rw [List.getD_eq_getElem?_getD (l := A), List.getElem?_eq_getElem hiA]
    exact ⟨h4.1, M.bs_inj (e2.trans h4.2)⟩
  · obtain ⟨_, _, e1⟩ := hview.get (show j < A2.length by omega)
    obtain ⟨_, _, e2⟩ := hview.get hj
    have := h3.at j (by rw [← hview.len]; exact hj)
    rw [e1, e2]
    omega
end Go.Proofs.Ytagdbbikhegoaaa
