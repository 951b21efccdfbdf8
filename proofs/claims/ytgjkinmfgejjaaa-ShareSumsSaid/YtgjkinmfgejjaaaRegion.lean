/-
  A region that draws its order, in a round of a range over a function: all but its last operation only read; the last one waits for all the others.
-/
import Derived.Sort.QuietIn
import Derived.RangeFuncBox
import Derived.TacticsInMore
import Derived.OwnWalkIn
import Derived.Test.YtgjkinmfgejjaaaProg
namespace Go.Proofs.Ytgjkinmfgejjaaa
set_option linter.unusedVariables false

section
variable {F : Fence} {n lr : Nat} {P : Program} {C : World → Prop} {Q : Exit → Act → World → Prop}

theorem wpOpIn_turn {ops ops' : Array Oper} {i : Nat} {K : Act → World → Prop} {a : Act} {w : World} {o : Oper} (h1 : ops[i]? = some o) (h2 : ops'[i]? = some o) (hg : o.guard = none) (hd : ∀ c, o.op ≠ .defer c) (hro : F.round = none)
    (h : wpOpIn F n P ops' Q i K a w) : wpOpIn (F.inRound lr) n P ops Q i K a w := by
  unfold wpOpIn at *
  rw [h1]
  rw [h2] at h
  have hw : ∀ ops : Array Oper, Region.wanted o (yielded ops a.tmps) = true := fun ops => by simp [Region.wanted, hg]
  simp only [hw, if_true] at h ⊢
  unfold Oper.wpIn at *
  refine ⟨h.1, ?_⟩
  have h2 := h.2
  rw [Oper.semAt_eq _ _ _ hd] at h2 ⊢
  exact h2

/-- a Boolean look at the operations: no guard, no defer statement, each waits for earlier ones alone; the last waits for all -/
def plainOp (o : Oper) : Bool := o.guard.isNone && (match o.op with | .defer _ => false | _ => true)
theorem plainOp_spec {o : Oper} (h : plainOp o = true) : o.guard = none ∧ ∀ c, o.op ≠ .defer c := by
  unfold plainOp at h
  rw [Bool.and_eq_true] at h
  refine ⟨by simpa using h.1, fun c e => ?_⟩
  rw [e] at h
  exact absurd h.2 (by simp)
def backOnly (l : List Oper) (k : Nat) : Bool := match l with
  | [] => true
  | o :: l => plainOp o && o.after.all (fun e => e.on < k) && backOnly l (k + 1)
theorem backOnly_spec : ∀ (l : List Oper) (k : Nat), backOnly l k = true → ∀ (j : Nat) (o : Oper), l[j]? = some o → plainOp o = true ∧ ∀ e ∈ o.after, e.on < k + j
  | [], _, _, j, o, h => by simp at h
  | x :: l, k, hb, j, o, h => by
    unfold backOnly at hb
    rw [Bool.and_eq_true, Bool.and_eq_true] at hb
    cases j with
    | zero =>
      simp at h; subst h
      exact ⟨hb.1.1, fun e he => by have h2 := Array.all_eq_true'.1 hb.1.2 e he; simpa using h2⟩
    | succ j =>
      have := backOnly_spec l (k + 1) hb.2 j o (by simpa using h)
      exact ⟨this.1, fun e he => by have := this.2 e he; omega⟩

theorem wpAnyIn_tail {l0 : List Oper} {o : Oper} (hro : F.round = none) (hb : backOnly l0 0 = true) (ho : plainOp o = true) (hall : ∀ j, j < l0.length → ∃ e ∈ o.after, e.on = j ∧ Region.binds .any e = true)
    (hon : ∀ e ∈ o.after, e.on < l0.length) {Qa : Act → Prop} (hQ : ∀ a w, C w → Qa a → wpListIn (F.inRound lr) n P (l0 ++ [o]).toArray Q [o] a w) :
    ∀ (fuel : Nat) (listed : Array Bool) (a : Act) (w : World), listed.size = l0.length → C w → wpAnyQIn F n P .any l0.toArray C Qa fuel listed a → wpAnyIn (F.inRound lr) n P .any (l0 ++ [o]).toArray Q (fuel + 1) (listed.push false) a w := by
  -- where the others have all been listed
  have last : ∀ (fuel : Nat) (listed : Array Bool) (a : Act) (w : World), listed.size = l0.length → C w → Region.ready .any l0.toArray listed = [] → Qa a → wpAnyIn (F.inRound lr) n P .any (l0 ++ [o]).toArray Q (fuel + 1) (listed.push false) a w := by
    intro fuel listed a w hs hC hr hq
    have hl : ∀ j, j < l0.length → listed.getD j false = true := by
      intro j
      induction j using Nat.strongRecOn with
      | ind j ih =>
        intro hj
        apply Classical.byContradiction
        intro hn
        have hm : j ∈ Region.ready .any l0.toArray listed := by
          refine mem_ready.2 ⟨?_, l0[j], by simp [hj], fun e he _ => ?_⟩
          · rw [Array.getD_eq_getD_getElem?, Array.getElem?_eq_getElem (by omega)] at hn ⊢
            simpa using hn
          · have := (backOnly_spec l0 0 hb j l0[j] (by simp [hj])).2 e he
            exact ih e.on (by omega) (by omega)
        rw [hr] at hm
        cases hm
    have hg : ∀ j, j < l0.length → ∀ d, (listed.push false).getD j d = true := by
      intro j hj d
      have := hl j hj
      rw [Array.getD_eq_getD_getElem?, Array.getElem?_eq_getElem (by omega)] at this
      rw [Array.getD_eq_getD_getElem?, Array.getElem?_push_lt (by omega)]
      simpa using this
    have hgm : ∀ d, (listed.push false).getD l0.length d = false := by
      intro d; rw [Array.getD_eq_getD_getElem?, ← hs, Array.getElem?_push_size]; rfl
    have hop : (l0 ++ [o]).toArray[l0.length]? = some o := by simp
    have hmem : l0.length ∈ Region.ready .any (l0 ++ [o]).toArray (listed.push false) := mem_ready.2 ⟨hgm _, o, hop, fun e he _ => hg _ (hon e he) _⟩
    refine ⟨fun h0 => absurd hmem (by rw [h0]; simp), fun i hi => ?_⟩
    obtain ⟨h1, oi, h2, _⟩ := mem_ready.1 hi
    have hlt : i < l0.length + 1 := by
      have := (Array.getElem?_eq_some_iff.1 h2).1
      simpa using this
    obtain rfl : i = l0.length := by
      apply Classical.byContradiction; intro hne
      have := hg i (by omega) true
      rw [this] at h1; cases h1
    have hfin : Region.ready .any (l0 ++ [o]).toArray ((listed.push false).setIfInBounds l0.length true) = [] := by
      apply List.eq_nil_iff_forall_not_mem.2
      intro j hj
      obtain ⟨h1, oj, h2, _⟩ := mem_ready.1 hj
      have hlt : j < l0.length + 1 := by
        have := (Array.getElem?_eq_some_iff.1 h2).1
        simpa using this
      by_cases he : j = l0.length
      · subst he; rw [Array.getD_eq_getD_getElem?, Array.getElem?_setIfInBounds_self_of_lt (by simp; omega)] at h1; simp at h1
      · rw [Array.getD_eq_getD_getElem?, Array.getElem?_setIfInBounds_ne (by omega), ← Array.getD_eq_getD_getElem?, hg j (by omega)] at h1; cases h1
    have hx := hQ a w hC hq
    unfold wpListIn at hx
    unfold wpOpIn
    rw [hop]
    have hd := fun a' w' => wpAnyIn_done (F := F.inRound lr) (n := n) (P := P) (md := .any) (ops := (l0 ++ [o]).toArray) (Q := Q) (a := a') (w := w') hfin
    have hw : Region.wanted o (yielded (l0 ++ [o]).toArray a.tmps) = true := by simp [Region.wanted, (plainOp_spec ho).1]
    simp only [hw, if_true] at hx ⊢
    exact Oper.wpIn_mono (fun a' w' h => hd a' w' (by simpa [wpListIn] using h) fuel) hx
  intro fuel
  induction fuel with
  | zero => intro listed a w hs hC h; exact last 0 listed a w hs hC h.1 h.2
  | succ fuel ih =>
    intro listed a w hs hC h
    by_cases hr : Region.ready .any l0.toArray listed = []
    · exact last _ listed a w hs hC hr (h.1 hr)
    · obtain ⟨i0, hi0⟩ := List.exists_mem_of_ne_nil _ hr
      obtain ⟨g1, o0, g2, g3⟩ := mem_ready.1 hi0
      have hi0l : i0 < l0.length := by have := (Array.getElem?_eq_some_iff.1 g2).1; simpa using this
      have hpush : ∀ j, j < l0.length → ∀ d, (listed.push false).getD j d = listed.getD j d := by
        intro j hj d
        rw [Array.getD_eq_getD_getElem?, Array.getElem?_push_lt (by omega), Array.getD_eq_getD_getElem?, Array.getElem?_eq_getElem (by omega)]
      have hops : ∀ j, j < l0.length → (l0 ++ [o]).toArray[j]? = l0.toArray[j]? := by
        intro j hj; simp [List.getElem?_append_left hj]
      have hback : ∀ {j : Nat} {oj : Oper}, l0.toArray[j]? = some oj → plainOp oj = true ∧ ∀ e ∈ oj.after, e.on < j := by
        intro j oj hj
        have := backOnly_spec l0 0 hb j oj (by simpa using hj)
        simpa using this
      refine ⟨fun h0 => ?_, fun i hi => ?_⟩
      · have : i0 ∈ Region.ready .any (l0 ++ [o]).toArray (listed.push false) := mem_ready.2 ⟨by rw [hpush _ hi0l]; exact g1, o0, by rw [hops _ hi0l]; exact g2, fun e he hbd => by
          rw [hpush _ (by have := (hback g2).2 e he; omega)]; exact g3 e he hbd⟩
        rw [h0] at this; cases this
      · obtain ⟨h1, oi, h2, h3⟩ := mem_ready.1 hi
        have hlt : i < l0.length + 1 := by
          have := (Array.getElem?_eq_some_iff.1 h2).1
          simpa using this
        by_cases he : i = l0.length
        · -- it waits for i0, which is not listed
          subst he
          exfalso
          have : oi = o := by simpa using h2.symm
          subst this
          obtain ⟨e, he, heq, hbd⟩ := hall i0 hi0l
          have := h3 e he hbd
          rw [heq, hpush _ hi0l] at this
          rw [Array.getD_eq_getD_getElem?, Array.getElem?_eq_getElem (by omega)] at this g1
          simp at this g1
          rw [this] at g1; cases g1
        · have hil : i < l0.length := by omega
          rw [hops _ hil] at h2
          have hmi : i ∈ Region.ready .any l0.toArray listed := mem_ready.2 ⟨by rw [← hpush _ hil]; exact h1, oi, h2, fun e he hbd => by
            rw [← hpush _ (by have := (hback h2).2 e he; omega)]; exact h3 e he hbd⟩
          obtain ⟨p1, p2⟩ := plainOp_spec (hback h2).1
          refine wpOpIn_turn (ops' := l0.toArray) (by rw [hops _ hil]; exact h2) h2 p1 p2 hro ?_
          refine wpOpIn_of_qOpIn (C := C) hro hC (fun a' w' hC' hK => ?_) (h.2 i hmi)
          have := ih (listed.setIfInBounds i true) a' w' (by simpa using hs) hC' hK
          have e : (listed.push false).setIfInBounds i true = (listed.setIfInBounds i true).push false := by
            apply Array.ext_getElem?
            intro j
            have hi' : i < listed.size := by omega
            rw [Array.getElem?_setIfInBounds, Array.getElem?_push, Array.getElem?_push, Array.getElem?_setIfInBounds, Array.size_setIfInBounds, Array.size_push]
            by_cases h1 : i = j
            · subst h1
              rw [if_pos rfl, if_pos (by omega), if_neg (by omega), if_pos rfl, if_pos hi']
            · rw [if_neg h1, if_neg h1]
          rw [e]
          exact this

/-- ONE WALK OF THE LEXICAL ORDER, THEN THE LAST OPERATION -/
theorem wpIn_region_tail {id : Nat} {a : Act} {w : World} {l l0 : List Oper} {o : Oper} (hro : F.round = none) (hm : P.follows .mixedOrders = true) (hl : l = l0 ++ [o]) (hb : backOnly l0 0 = true) (ho : plainOp o = true)
    (hall : (List.range l0.length).all (fun j => o.after.any fun e => e.on == j && Region.binds .any e) = true) (hon : o.after.all (fun e => e.on < l0.length) = true) (hB : Region.lexB .any l0.toArray = true)
    (h : wpQuietIn F n P l0.toArray (fun w' => ∃ n, w' = w.drewN n) (fun a' => ∀ w', (∃ n, w' = w.drewN n) → wpListIn (F.inRound lr) n P (l0 ++ [o]).toArray Q [o] a' w') l0 a) : (Code.region id l.toArray true).wpIn (F.inRound lr) n P Q a w := by
  subst hl
  simp only [Region.lexB, Bool.and_eq_true] at hB
  refine wpIn_region_any hm ?_
  have hq := wpAnyQIn_lex (F := F) (n := n) (C := fun w' => ∃ n, w' = w.drewN n) (md := .any) hB.1 l0 0 (Array.replicate l0.length false) a (by simp) (by simpa using hB.2) h
  have ht := wpAnyIn_tail (lr := lr) (Q := Q) (o := o) hro hb ho (fun j hj => by
      have := List.all_eq_true.1 hall j (by simpa using hj)
      obtain ⟨e, he, hx⟩ := Array.any_eq_true'.1 this
      rw [Bool.and_eq_true] at hx
      exact ⟨e, he, by simpa using hx.1, hx.2⟩)
    (fun e he => by have := Array.all_eq_true'.1 hon e he; simpa using this) (fun a' w' hC hQa => hQa w' hC) l0.length (Array.replicate l0.length false) a { w with drawn := w.drawn + 1 } (by simp) ⟨1, rfl⟩ hq
  have e : Array.replicate (l0 ++ [o]).toArray.size false = (Array.replicate l0.length false).push false := by
    simp [Array.replicate_succ]
  rw [e]
  simpa using ht
end
end Go.Proofs.Ytgjkinmfgejjaaa
