/-
  Single operations over a frame that stays a variable: for a region of hundreds of operations.
-/
import Derived.Test.YtgoognipljknjaaProg
import Derived.WalkKit
import Derived.WalkSpells
import Derived.WalkLawsBesides
namespace Go.Proofs.Ytgoognipljknjaa
open Go.RowKit

/-- slot k of the frame holds v -/
def Has (a : Act) (k : Nat) (v : Value) : Prop := a.tmps[k]? = some v

theorem Has.eval {a : Act} {k : Nat} {v : Value} (h : Has a k v) : a.eval (.tmp k) = v := by
  unfold Has at h
  simp [Act.eval, Array.getD_eq_getD_getElem?, h]

theorem Has.put {a : Act} {k d : Nat} {v : Value} (x : Value) (h : Has a k v) (hd : d ≠ k) : Has (a.put (some d) x) k v := by
  unfold Has at *
  simp [Act.put, hd, h]

theorem Has.new {a : Act} {d : Nat} (x : Value) (h : d < a.tmps.size) : Has (a.put (some d) x) d x := by
  unfold Has
  simp [Act.put, h]

theorem put_size (a : Act) (d : Nat) (x : Value) : (a.put (some d) x).tmps.size = a.tmps.size := by simp [Act.put]
theorem put_defers (a : Act) (d : Nat) (x : Value) : (a.put (some d) x).defers = a.defers := by simp [Act.put]

section
variable {P : Program} {ops : Array Oper} {Q : Exit → Act → World → Prop} {a : Act} {w : World} {rest : List Oper}

theorem at_move {d k : Nat} {T : TypeId} {pos : String} {af : Array Edge} {v : Value} (h : Has a k v)
    (hn : wpList P ops Q rest (a.put (some d) v) w) : wpList P ops Q (⟨some d, .move (.tmp k), T, pos, af, none⟩ :: rest) a w := by
  refine wpList_plain rfl fun K hK => ?_
  have e := h.eval
  simp only [Oper.wp, execOp, e]
  exact hK _ _ hn

theorem at_assign {d k : Nat} {T : TypeId} {pos : String} {af : Array Edge} {v : Value} (h : Has a k v)
    (hn : wpList P ops Q rest (a.put (some d) v) w) : wpList P ops Q (⟨some d, .assign (.tmp k), T, pos, af, none⟩ :: rest) a w := by
  refine wpList_plain rfl fun K hK => ?_
  have e := h.eval
  simp only [Oper.wp, execOp, e]
  exact hK _ _ hn

theorem at_skip {o : Oper} {g : Nat × Bool} {d : Nat} {og : Oper} {dg : Nat} (hgd : o.guard = some g) (hd : o.dst = some d) (hog : ops[g.1]? = some og) (hdg : og.dst = some dg) (hv : Has a dg (.bool (!g.2)))
    (hn : wpList P ops Q rest (a.put (some d) undef) w) : wpList P ops Q (o :: rest) a w := by
  unfold wpList
  rw [if_neg (by
    unfold Has at hv
    simp [Region.wanted, hgd, yielded, hog, hdg, hv])]
  rw [hd]; exact hn

theorem at_taken {o : Oper} {g : Nat × Bool} {og : Oper} {dg : Nat} (hgd : o.guard = some g) (hog : ops[g.1]? = some og) (hdg : og.dst = some dg) (hv : Has a dg (.bool g.2))
    (hn : o.wp P a w (wpList P ops Q rest) Q) : wpList P ops Q (o :: rest) a w := by
  unfold wpList
  rw [if_pos (by
    unfold Has at hv
    simp [Region.wanted, hgd, yielded, hog, hdg, hv])]
  exact .inl hn

theorem at_pick {d k m : Nat} {T : TypeId} {pos : String} {af : Array Edge} {b : Bool} {v : Value} (hb : Has a k (.bool b)) (hv : b = false → Has a m v)
    (hn : wpList P ops Q rest (a.put (some d) (if b then .bool true else v)) w) : wpList P ops Q (⟨some d, .pick (.tmp k) (.const (.bool true)) (.tmp m), T, pos, af, none⟩ :: rest) a w := by
  refine wpList_plain rfl fun K hK => ?_
  have e := hb.eval
  cases b with
  | true =>
    simp only [Oper.wp, execOp, e]
    exact hK _ _ hn
  | false =>
    have e2 := (hv rfl).eval
    simp only [Oper.wp, execOp, e, e2]
    exact hK _ _ hn

theorem wp_rem {d k : Nat} {T T' T2 : TypeId} {pos : String} {af : Array Edge} {gd : Option (Nat × Bool)} {p q : Nat} {K : Act → World → Prop} (h : Has a k (.int .u32 p)) (_hp : p < 4294967296) (h1 : 1 ≤ q)
    (hn : K (a.put (some d) (.int .u32 ((p % q : Nat) : Int))) w) : Oper.wp P ⟨some d, .binOp .rem T (.tmp k) (.const (.int .u32 q)) T', T2, pos, af, gd⟩ a w K Q := by
  have e := h.eval
  have hq : ¬ q = 0 := by omega
  rw [Int.natCast_emod] at hn
  simp only [Oper.wp, execOp, e, eqGuard]
  go_simp
  exact hn

theorem wp_eql0 {d k : Nat} {T T' T2 : TypeId} {pos : String} {af : Array Edge} {gd : Option (Nat × Bool)} {x : Nat} {K : Act → World → Prop} (h : Has a k (.int .u32 x))
    (hn : K (a.put (some d) (.bool ((x : Int) == 0))) w) : Oper.wp P ⟨some d, .binOp .eql T (.tmp k) (.const (.int .u32 0)) T', T2, pos, af, gd⟩ a w K Q := by
  have e := h.eval
  simp only [Oper.wp, execOp, e, eqGuard]
  go_simp
  exact hn

theorem wp_move {d k : Nat} {T2 : TypeId} {pos : String} {af : Array Edge} {gd : Option (Nat × Bool)} {v : Value} {K : Act → World → Prop} (h : Has a k v)
    (hn : K (a.put (some d) v) w) : Oper.wp P ⟨some d, .move (.tmp k), T2, pos, af, gd⟩ a w K Q := by
  have e := h.eval
  simp only [Oper.wp, execOp, e]
  exact hn

/-- what is carried along the chain: the frame's width, the number in slot 0, the answer so far in slot k -/
structure Chain (a : Act) (n : Nat) (p : Nat) (k : Nat) (b : Bool) : Prop where
  size : a.tmps.size = n
  num : Has a 0 (.int .u32 p)
  ans : Has a k (.bool b)
  def0 : a.defers = []

set_option maxHeartbeats 800000 in
theorem or_group {n p k q g : Nat} {b : Bool} {T1 T2 T3 T4 T5 Ta Tb Tc Td : TypeId} {p1 p2 p3 p4 p5 : String} {a1 a2 a3 a4 a5 : Array Edge} {og : Oper}
    (h : Chain a n p k b) (hp : p < 4294967296) (hq : 1 ≤ q) (hk : k + 5 < n) (hk0 : 1 ≤ k) (hog : ops[g]? = some og) (hdg : og.dst = some (k + 1))
    (hn : ∀ a', Chain a' n p (k + 5) (b || ((p % q : Nat) : Int) == 0) → wpList P ops Q rest a' w) :
    wpList P ops Q (⟨some (k + 1), .move (.tmp k), T1, p1, a1, none⟩ :: ⟨some (k + 2), .move (.tmp 0), T2, p2, a2, some (g, false)⟩ ::
      ⟨some (k + 3), .binOp .rem Ta (.tmp (k + 2)) (.const (.int .u32 q)) Tb, T3, p3, a3, some (g, false)⟩ ::
      ⟨some (k + 4), .binOp .eql Tc (.tmp (k + 3)) (.const (.int .u32 0)) Td, T4, p4, a4, some (g, false)⟩ ::
      ⟨some (k + 5), .pick (.tmp (k + 1)) (.const (.bool true)) (.tmp (k + 4)), T5, p5, a5, none⟩ :: rest) a w := by
  obtain ⟨hs, h0, hb, hd⟩ := h
  refine at_move hb ?_
  have n1 := Has.new (a := a) (d := k + 1) (.bool b) (by omega)
  have z1 := Has.put (d := k + 1) (.bool b) h0 (by omega)
  have s1 := put_size a (k + 1) (.bool b)
  have d1 := put_defers a (k + 1) (.bool b)
  generalize a.put (some (k + 1)) (.bool b) = b1 at *
  cases b with
  | true =>
    refine at_skip rfl rfl hog hdg n1 ?_
    refine at_skip rfl rfl hog hdg (Has.put _ n1 (by omega)) ?_
    refine at_skip rfl rfl hog hdg (Has.put _ (Has.put _ n1 (by omega)) (by omega)) ?_
    refine at_pick (v := .bool false) (Has.put _ (Has.put _ (Has.put _ n1 (by omega)) (by omega)) (by omega)) (fun h => by cases h) (hn _ ⟨?_, ?_, ?_, ?_⟩)
    · simp only [put_size]; omega
    · exact Has.put _ (Has.put _ (Has.put _ (Has.put _ z1 (by omega)) (by omega)) (by omega)) (by omega)
    · exact Has.new _ (by simp only [put_size]; omega)
    · simp only [put_defers]; rw [d1, hd]
  | false =>
    refine at_taken rfl hog hdg n1 (wp_move z1 ?_)
    have n2 := Has.new (a := b1) (d := k + 2) (.int .u32 p) (by omega)
    have m1 := Has.put (d := k + 2) (.int .u32 p) n1 (by omega)
    refine at_taken rfl hog hdg m1 (wp_rem n2 hp hq ?_)
    refine at_taken rfl hog hdg (Has.put _ m1 (by omega)) (wp_eql0 (Has.new _ (by simp only [put_size]; omega)) ?_)
    refine at_pick (Has.put _ (Has.put _ m1 (by omega)) (by omega)) (fun _ => Has.new _ (by simp only [put_size]; omega)) (hn _ ⟨?_, ?_, ?_, ?_⟩)
    · simp only [put_size]; omega
    · exact Has.put _ (Has.put _ (Has.put _ (Has.put _ z1 (by omega)) (by omega)) (by omega)) (by omega)
    · exact Has.new _ (by simp only [put_size]; omega)
    · simp only [put_defers]; rw [d1, hd]

theorem or_first {n p q : Nat} {T1 T2 T3 Ta Tb Tc Td : TypeId} {p1 p2 p3 : String} {a1 a2 a3 : Array Edge}
    (hs : a.tmps.size = n) (h0 : Has a 0 (.int .u32 p)) (hd : a.defers = []) (hp : p < 4294967296) (hq : 1 ≤ q) (hn5 : 5 < n)
    (hn : ∀ a', Chain a' n p 5 (((p % q : Nat) : Int) == 0) → wpList P ops Q rest a' w) :
    wpList P ops Q (⟨some 3, .move (.tmp 0), T1, p1, a1, none⟩ ::
      ⟨some 4, .binOp .rem Ta (.tmp 3) (.const (.int .u32 q)) Tb, T2, p2, a2, none⟩ ::
      ⟨some 5, .binOp .eql Tc (.tmp 4) (.const (.int .u32 0)) Td, T3, p3, a3, none⟩ :: rest) a w := by
  refine at_move h0 (wpList_plain rfl fun K1 hK1 => wp_rem (Has.new _ (by omega)) hp hq (hK1 _ _ (wpList_plain rfl fun K2 hK2 => wp_eql0 (Has.new _ (by simp only [put_size]; omega)) (hK2 _ _ (hn _ ⟨?_, ?_, ?_, ?_⟩)))))
  · simp only [put_size]; omega
  · exact Has.put _ (Has.put _ (Has.put _ h0 (by omega)) (by omega)) (by omega)
  · exact Has.new _ (by simp only [put_size]; omega)
  · simp only [put_defers]; exact hd
end
end Go.Proofs.Ytgoognipljknjaa
