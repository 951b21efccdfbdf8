/-
  Rows that do not quarrel: there is a pair that has them; what is left of the rows belongs to it too.
-/
import Derived.Test.YtglehjcohdjhoaaPbM
import Derived.Test.YtglehjcohdjhoaaPr11
namespace Go.Proofs.Ytglehjcohdjhoaa.M
set_option linter.unusedVariables false

theorem thru_exists {p : Nat} (hi : isP p = true) {xs ys : List Nat} (hd : xs.Nodup) (hw : within p xs = true) (hy : within p ys = true) (hl : ys.length = xs.length) : ∃ f, Thru p xs ys f := by
  have h : ∀ k, k ≤ xs.length → ∃ f z, Newt p xs ys k f ∧ Node p xs k z := by
    intro k
    induction k with
    | zero => exact fun _ => ⟨[], [1], Newt.start _ _ _, Node.start (by have := pos_of hi; omega) _⟩
    | succ k ih =>
      intro hk
      obtain ⟨f, z, h1, h2⟩ := ih (by omega)
      have hk' : k < xs.length := by omega
      exact ⟨_, _, h1.step hi hw hy hl hk' h2 (fun h0 => node_zero hi hw hk' h2 h0 hd), h2.step (by have := pos_of hi; omega) hw hk'⟩
  obtain ⟨f, z, h1, _⟩ := h xs.length (Nat.le_refl _)
  exact ⟨f, h1.done⟩
theorem held_exists {p n : Nat} (hi : isP p = true) {xs : List Nat} {rows : List (List Nat)} (hd : xs.Nodup) (hx : within p xs = true) (hn : n ≤ xs.length) (hw : ∀ i, i < xs.length → within p (rows.getD i []) = true) (hl : ∀ i, i < xs.length → (trim (rows.getD i [])).length ≤ n)
    (ha : Agreed p xs rows) : ∃ F, PairOf p n xs rows F := by
  have hp : 0 < p := by have := pos_of hi; omega
  have h : ∀ k, ∃ f, k < n → Thru p (xs.take n) (tabM n fun i => (rows.getD i []).getD k 0) f := fun k => by
    obtain ⟨f, hf⟩ := thru_exists hi (hd.sublist (List.take_sublist n xs)) (within_sub hx fun x hx' => List.mem_of_mem_take hx') (ys := tabM n fun i => (rows.getD i []).getD k 0) (within_tabM fun i hin => within_getD hp (hw i (by omega)) k) (by rw [tabM_len, List.length_take]; omega)
    exact ⟨f, fun _ => hf⟩
  obtain ⟨g, hg⟩ := Classical.skolem.1 h
  exact ⟨_, (cols_of_thru hp hn (fun k hk => hg k hk)).held hi hd hx hn hw hl ha⟩
theorem getD_drop6 {α : Type} (l : List α) (d i : Nat) (x : α) : (l.drop d).getD i x = l.getD (d + i) x := by simp [List.getD_eq_getElem?_getD]
theorem PairOf.drop {p n : Nat} {xs : List Nat} {rows : List (List Nat)} {F : Nat → Nat → Nat} (h : PairOf p n xs rows F) (d : Nat) : PairOf p n (xs.drop d) (rows.drop d) F where
  sym := h.sym
  lt := h.lt
  row i hi := by
    rw [getD_drop6, getD_drop6]
    exact h.row (d + i) (by rw [List.length_drop] at hi; omega)
theorem ROk.drop {p : Nat} {xs : List Nat} {rows : List (List Nat)} (h : ROk p xs rows) (d : Nat) : ROk p (xs.drop d) (rows.drop d) where
  len := by rw [List.length_drop]; have := h.len; omega
  rl := by rw [List.length_drop, List.length_drop, h.rl]
  wx := within_sub h.wx fun x hx => List.mem_of_mem_drop hx
  nod := h.nod.sublist (List.drop_sublist d xs)
  row i hi := by rw [getD_drop6]; exact h.row (d + i) (by rw [List.length_drop] at hi; omega)
end Go.Proofs.Ytglehjcohdjhoaa.M
namespace Go.Proofs.Ytglehjcohdjhoaa
open Go.RowKit

/-- what is left of a list, as a slice -/
theorem nums_rest {w : World} {A : Option Addr} {cap : Nat} {zs : List Nat} (h : Nums w (.slice A zs.length cap) zs) {d : Nat} (hd : d < zs.length) : ∃ b off, A = some ⟨b, off, none⟩ ∧ Nums w (.slice (some ⟨b, off + d, none⟩) (zs.length - d) (cap - d)) (zs.drop d) := by
  obtain ⟨A', cap', e, hc, hl, hC⟩ := nums_view h
  simp only [Value.slice.injEq] at e
  obtain ⟨rfl, _, rfl⟩ := e
  obtain ⟨b, off, rfl, hb, hcell⟩ := hC (by omega)
  refine ⟨b, off, rfl, fun x hx => h.1 x (List.mem_of_mem_drop hx), by rw [List.length_drop]; omega, .inr ⟨b, off + d, cap - d, by rw [List.length_drop], by rw [List.length_drop]; omega, hb, fun i hi => ?_⟩⟩
  rw [List.length_drop] at hi
  rw [M.getD_drop6, Nat.add_assoc]
  exact hcell (d + i) (by omega)
theorem mat_rest {w : World} {A : Option Addr} {cap : Nat} {m : List (List Nat)} (h : Mat w (.slice A m.length cap) m) {d : Nat} (hd : d < m.length) : ∃ b off, A = some ⟨b, off, none⟩ ∧ Mat w (.slice (some ⟨b, off + d, none⟩) (m.length - d) (cap - d)) (m.drop d) := by
  obtain ⟨A', cap', e, hc, hl, hC⟩ := mat_view6 h
  simp only [Value.slice.injEq] at e
  obtain ⟨rfl, _, rfl⟩ := e
  obtain ⟨b, off, rfl, hb, hcell⟩ := hC (by omega)
  refine ⟨b, off, rfl, by rw [List.length_drop]; omega, some ⟨b, off + d, none⟩, cap - d, by rw [List.length_drop], by rw [List.length_drop]; omega, fun _ => ⟨b, off + d, rfl, hb, fun i hi => ?_⟩⟩
  rw [List.length_drop] at hi
  obtain ⟨Au, cu, h1, h2⟩ := hcell (d + i) (by omega)
  rw [M.getD_drop6, Nat.add_assoc]
  exact ⟨_, h1, h2⟩
end Go.Proofs.Ytglehjcohdjhoaa
