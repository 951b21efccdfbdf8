/-
  A region that draws its order, walked in the order of the text: an operation that its guard passes over costs nothing.
-/
import Derived.Deep.RegionHeld3
import Derived.Still
namespace Go.Proofs.Ytagdbbikhegoaaa
section
variable {P : Program} {ops : Array Oper} {md : Region.Mode} {Q : Exit → Act → World → Prop} {S : World → Prop}

/-- which operations have come up when the first k have -/
def lexUp (n : Nat) : Nat → Array Bool
  | 0 => Array.replicate n false
  | k + 1 => (lexUp n k).setIfInBounds k true

/-- what is left, l, is walked in the order of the text from number k on -/
def LexH (P : Program) (md : Region.Mode) (ops : Array Oper) (Q : Exit → Act → World → Prop) (S : World → Prop) (l : List Oper) (k : Nat) (a : Act) (w : World) : Prop :=
  (∀ j, l[j]? = ops[k + j]?) → Region.noSelect ops = true → Region.lexFrom md ops l.length k (lexUp ops.size k) = true → (∀ (n : Nat) v c a w, Q (.panic c) (a.put (some n) v) w → Q (.panic c) a w) → S w →
    wpAnyH P md ops Q S l.length (lexUp ops.size k) a w

theorem LexH.nil {k : Nat} {a : Act} {w : World} (h : Q .normal a w) : LexH P md ops Q S [] k a w := by
  intro _ _ hB _ _
  exact ⟨by simpa [Region.lexFrom] using hB, h⟩
theorem lex_panic (hQ : ∀ (n : Nat) v c a w, Q (.panic c) (a.put (some n) v) w → Q (.panic c) a w) (d : Option Nat) (v : Value) (c : List PanicEntry) (a : Act) (w : World) (h : Q (.panic c) (a.put d v) w) : Q (.panic c) a w := by
  cases d with
  | none => exact h
  | some n => exact hQ n v c a w h
theorem lex_next {o : Oper} {l : List Oper} {k : Nat} (hl : ∀ j, (o :: l)[j]? = ops[k + j]?) : ∀ j, l[j]? = ops[k + 1 + j]? := fun j => by
  have := hl (j + 1)
  simpa [Nat.add_assoc, Nat.add_comm 1 j] using this
theorem LexH.take {o : Oper} {l : List Oper} {k : Nat} {v : Value} {a : Act} {w : World} (hy : YieldsIf P ops S o v a) (h : LexH P md ops Q S l (k + 1) (a.put o.dst v) w) : LexH P md ops Q S (o :: l) k a w := by
  intro hl hs hB hQ hS
  have h0 : ops[k]? = some o := by simpa using (hl 0).symm
  simp only [List.length_cons, Region.lexFrom, Bool.and_eq_true] at hB
  obtain ⟨⟨hr, hf⟩, hB'⟩ := hB
  exact wpAnyH_take h0 hs hf hr (fun c a w => lex_panic hQ _ _ c a w) hy hS (h (lex_next hl) hs hB' hQ hS)
theorem LexH.pass {o : Oper} {l : List Oper} {k : Nat} {a : Act} {w : World} (hw : Region.wanted o (yielded ops a.tmps) = false) (h : LexH P md ops Q S l (k + 1) (a.put o.dst undef) w) : LexH P md ops Q S (o :: l) k a w :=
  LexH.take (.inr ⟨hw, rfl⟩) h
theorem LexH.yield {o : Oper} {l : List Oper} {k : Nat} {v : Value} {a : Act} {w : World} (hw : Region.wanted o (yielded ops a.tmps) = true) (hv : ∀ w, S w → (execOp a.eval o).run P w = .ok (.value v) w) (h : LexH P md ops Q S l (k + 1) (a.put o.dst v) w) : LexH P md ops Q S (o :: l) k a w :=
  LexH.take (.inl ⟨hw, hv⟩) h
/-- nothing else may come up -/
theorem LexH.alone {o : Oper} {l : List Oper} {k : Nat} {a : Act} {w : World} (hw : Region.wanted o (yielded ops a.tmps) = true) (hr : Region.ready md ops (lexUp ops.size k) = [k])
    (h : ∀ K : Act → World → Prop, Shut (∀ a w, S w → (S w → LexH P md ops Q S l (k + 1) a w) → K a w) → Oper.wp P o a w K Q) : LexH P md ops Q S (o :: l) k a w := by
  intro hl hs hB hQ hS
  have h0 : ops[k]? = some o := by simpa using (hl 0).symm
  simp only [List.length_cons, Region.lexFrom, Bool.and_eq_true] at hB
  obtain ⟨⟨_, hf⟩, hB'⟩ := hB
  refine wpAnyH_ready hr (by simp) (AllReadyH.cons h0 (fun K hK => ?_) AllReadyH.nil)
  rw [if_pos hw]
  exact h K fun a w hS h' => hK.out a w hS fun hS' => h' hS (lex_next hl) hs hB' hQ hS'
/-- a call (number k) that waits for what comes two and three places behind it (a move and what is reckoned with it); its own answer is looked at by number k + 1 -/
def lateB (md : Region.Mode) (ops : Array Oper) (k : Nat) : Bool :=
  let n := ops.size
  let L0 := lexUp n k
  let L2 := L0.setIfInBounds (k + 2) true
  let L3 := L2.setIfInBounds (k + 3) true
  let L4 := L3.setIfInBounds k true
  (Region.ready md ops L0).contains (k + 2) && Region.free md ops L0 (k + 2) && (Region.ready md ops L2).contains (k + 3) && Region.free md ops L2 (k + 3) && (Region.ready md ops L3 == [k]) &&
    (Region.ready md ops L4).contains (k + 1) && Region.free md ops L4 (k + 1) && (L4.setIfInBounds (k + 1) true == lexUp n (k + 4))
/-- behind such a call -/
def LexO (P : Program) (md : Region.Mode) (ops : Array Oper) (Q : Exit → Act → World → Prop) (S : World → Prop) (o1 : Oper) (l : List Oper) (k : Nat) (a : Act) (w : World) : Prop :=
  (∀ j, l[j]? = ops[k + 4 + j]?) → ops[k + 1]? = some o1 → Region.noSelect ops = true → Region.lexFrom md ops l.length (k + 4) (lexUp ops.size (k + 4)) = true → lateB md ops k = true → (∀ (n : Nat) v c a w, Q (.panic c) (a.put (some n) v) w → Q (.panic c) a w) → S w →
    wpAnyH P md ops Q S (l.length + 1) ((((lexUp ops.size k).setIfInBounds (k + 2) true).setIfInBounds (k + 3) true).setIfInBounds k true) a w
theorem LexO.yield {o1 : Oper} {l : List Oper} {k : Nat} {v : Value} {a : Act} {w : World} (hw : Region.wanted o1 (yielded ops a.tmps) = true) (hv : ∀ w, S w → (execOp a.eval o1).run P w = .ok (.value v) w) (h : LexH P md ops Q S l (k + 4) (a.put o1.dst v) w) :
    LexO P md ops Q S o1 l k a w := by
  intro hl h1 hs hB hb hQ hS
  simp only [lateB, Bool.and_eq_true] at hb
  obtain ⟨⟨⟨_, hr⟩, hf⟩, he⟩ := hb
  refine wpAnyH_take h1 hs hf hr (fun c a w => lex_panic hQ _ _ c a w) (.inl ⟨hw, hv⟩) hS ?_
  rw [eq_of_beq he]
  exact h hl hs hB hQ hS
theorem LexH.late {o o1 o2 o3 : Oper} {l : List Oper} {k : Nat} {v2 v3 : Value} {a : Act} {w : World} (hb : lateB md ops k = true)
    (hw2 : Region.wanted o2 (yielded ops a.tmps) = true) (hv2 : ∀ w, S w → (execOp a.eval o2).run P w = .ok (.value v2) w)
    (hw3 : Region.wanted o3 (yielded ops (a.put o2.dst v2).tmps) = true) (hv3 : ∀ w, S w → (execOp (a.put o2.dst v2).eval o3).run P w = .ok (.value v3) w)
    (hw : Region.wanted o (yielded ops ((a.put o2.dst v2).put o3.dst v3).tmps) = true)
    (h : ∀ K : Act → World → Prop, Shut (∀ a w, S w → (S w → LexO P md ops Q S o1 l k a w) → K a w) → Oper.wp P o ((a.put o2.dst v2).put o3.dst v3) w K Q) :
    LexH P md ops Q S (o :: o1 :: o2 :: o3 :: l) k a w := by
  intro hl hs hB hQ hS
  have hb' := hb
  simp only [lateB, Bool.and_eq_true] at hb
  obtain ⟨⟨⟨⟨⟨⟨⟨r2, f2⟩, r3⟩, f3⟩, r0⟩, _⟩, _⟩, _⟩ := hb
  have h0 : ops[k]? = some o := by simpa using (hl 0).symm
  have h1 : ops[k + 1]? = some o1 := by simpa using (hl 1).symm
  have h2 : ops[k + 2]? = some o2 := by simpa using (hl 2).symm
  have h3 : ops[k + 3]? = some o3 := by simpa using (hl 3).symm
  have hl4 : ∀ j, l[j]? = ops[k + 4 + j]? := fun j => by
    have := hl (j + 4)
    simpa [Nat.add_assoc, Nat.add_comm 4 j] using this
  have hB4 : Region.lexFrom md ops l.length (k + 4) (lexUp ops.size (k + 4)) = true := by
    simp only [List.length_cons, Region.lexFrom, Bool.and_eq_true] at hB
    exact hB.2.2.2.2
  refine wpAnyH_take h2 hs f2 r2 (fun c a w => lex_panic hQ _ _ c a w) (.inl ⟨hw2, hv2⟩) hS ?_
  refine wpAnyH_take h3 hs f3 r3 (fun c a w => lex_panic hQ _ _ c a w) (.inl ⟨hw3, hv3⟩) hS ?_
  refine wpAnyH_ready (eq_of_beq r0) (by simp) (AllReadyH.cons h0 (fun K hK => ?_) AllReadyH.nil)
  rw [if_pos hw]
  exact h K fun a w hS h' => hK.out a w hS fun hS' => h' hS hl4 h1 hs hB4 hb' hQ hS'
theorem wp_region_lex {id : Nat} {l : List Oper} {a : Act} {w : World} (hm : P.follows .mixedOrders = true) (hB : Region.lexB .any l.toArray = true) (hQ : ∀ (n : Nat) v c a w, Q (.panic c) (a.put (some n) v) w → Q (.panic c) a w) (hS : S w.drew)
    (h : LexH P .any l.toArray Q S l 0 a w.drew) : (Code.region id l.toArray true).wp P Q a w := by
  simp only [Region.lexB, Bool.and_eq_true] at hB
  refine wp_region_held_drew hm hS fun _ => ?_
  have := h (fun j => by simp) hB.1 (by simpa [lexUp] using hB.2) hQ hS
  simpa [lexUp] using this
end
end Go.Proofs.Ytagdbbikhegoaaa
