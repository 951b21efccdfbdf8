/-
  Tokens: the program's reserved names.
-/
import Derived.Test.YtagdbbikhegoaaaKu
import Derived.Maps.Own
import Derived.Maps.OwnOps
import Derived.Maps.Views
namespace Go.Proofs.Ytagdbbikhegoaaa
open Go.RowKit
open Go.Maps
set_option linter.unusedVariables false
set_option maxRecDepth 100000

theorem elem_bool_inv {P : Program} {e : TypeId} (he : P.underlying e = some .bool) {v : Value} {z : DataW Unit × List MemPlace} (h : plainElem P e v = some z) : ∃ x, v = .bool x ∧ z = (.lit (.bool x), []) := by
  unfold plainElem at h
  rw [he] at h
  cases v <;> simp at h
  exact ⟨_, rfl, h.symm⟩
/-- m[k] at bools: the walk goes on with the bool that the datum tells -/
theorem wpList_lookup_own_bool {P : Program} (w : World) {ops : Array Oper} {rest : List Oper} {o : Oper} {a : Act} {Q : Exit → Act → World → Prop}
    (hg : o.guard = none) (m x : Operand) (t : TypeId) (hop : o.op = Op.lookup t m x false)
    (k e : TypeId) (K : Keyed P k) (ht : P.underlying t = some (.map k e)) (he : P.underlying e = some .bool) (hz : (zeroValue e).run P w = .ok (.bool false) w) (b n : Nat) (D : DataW Unit)
    (hm : a.eval m = .map (some b)) (hown : w.ownsMap P k (plainElem P e) b n D) (key : Value) (kl : Lit) (hx : a.eval x = key) (hkey : keyOf P k key = some kl)
    (hK : ∀ c : Bool, D.atKey kl (.lit (.bool false)) = .lit (.bool c) → wpList P ops Q rest (a.put o.dst (.bool c)) w) :
    wpList P ops Q (o :: rest) a w := by
  refine wpList_plain hg fun K' hK' => ?_
  obtain ⟨v, ps, hrun, hv⟩ := hown.lookup K ht hz (plainElem_bool he false) hkey
  obtain ⟨c, rfl, hc⟩ := elem_bool_inv he hv
  simp only [Prod.mk.injEq] at hc
  unfold Oper.wp
  simp [execOp, hop, hm, hx, hrun, Result.andThen]
  exact hK' _ _ (hK c hc.1)

/-- a set of strings, as the datum of a map of bools -/
def setD (l : List ByteArray) : DataW Unit := Maps.setOf (.lit (.bool true)) (l.map fun x => Lit.string x.data.toList)
theorem setD_snoc (l : List ByteArray) (x : ByteArray) : setD (l ++ [x]) = (setD l).put (.string x.data.toList) (.lit (.bool true)) := by
  unfold setD
  rw [List.map_append, List.map_singleton, Maps.setOf_snoc]
theorem set_fold (x : ByteArray) : ∀ (l : List ByteArray) (D : DataW Unit), Maps.IsMap D → ((l.map fun x => Lit.string x.data.toList).foldl (fun m x => m.put x (.lit (.bool true))) D).atKey (.string x.data.toList) (.lit (.bool false)) = if M.bs x ∈ l.map M.bs then .lit (.bool true) else D.atKey (.string x.data.toList) (.lit (.bool false))
  | [], D, _ => by simp
  | a :: t, D, hD => by
    rw [List.map_cons, List.foldl_cons, set_fold x t _ (hD.put _ _), List.map_cons]
    by_cases ht : M.bs x ∈ t.map M.bs
    · rw [if_pos ht, if_pos (List.mem_cons_of_mem _ ht)]
    · rw [if_neg ht]
      by_cases hx : x = a
      · subst hx
        rw [if_pos (List.mem_cons_self ..), Maps.atKey_put_same hD (by trivial)]
      · have hne : ¬ M.bs x = M.bs a := fun h => hx (M.bs_inj h)
        rw [if_neg (by rw [List.mem_cons]; exact fun h => h.elim hne ht), Maps.atKey_put_other (by
          intro h
          injection h with h
          exact hne (by unfold M.bs; rw [h]))]
theorem set_at (l : List ByteArray) (x : ByteArray) : (setD l).atKey (.string x.data.toList) (.lit (.bool false)) = .lit (.bool (decide (M.bs x ∈ l.map M.bs))) := by
  unfold setD Maps.setOf
  rw [set_fold x _ _ ⟨[], rfl⟩]
  by_cases h : M.bs x ∈ l.map M.bs
  · rw [if_pos h, decide_eq_true h]
  · rw [if_neg h, decide_eq_false h]
    rfl
theorem key_string {s : ByteArray} (h : s.size ≤ maxLen) : keyOf Try.prog 9 (.string s) = some (.string s.data.toList) := by
  simp [keyOf, mapKey, Try.underlying9, h]
theorem key_str : Keyed Try.prog 9 := string_keyed Try.underlying9
theorem zero_bool (w : World) : (zeroValue 4).run Try.prog w = .ok (.bool false) w := by kernel_rfl
/-- the map of b reads as the set of the strings of l -/
def SetS (w : World) (b n : Nat) (l : List ByteArray) : Prop := w.ownsMap Try.prog 9 (plainElem (H := Unit) Try.prog 4) b n (setD l)
theorem SetS.made (w : World) : SetS (w.alloc (.map #[] 0)) w.heap.size 0 [] := World.ownsMap_made w _ _ _
theorem SetS.more {w W : World} {b n : Nat} {l : List ByteArray} (h : SetS W b n l) (hn : n < 1000) (hB : Below w.heap.size w W) (hb : w.heap.size ≤ b) (x : ByteArray) (hx : x.size ≤ maxLen) : ∃ W', (Instr.mapUpdate 53 (.map (some b)) (.string x) (.bool true)).run Try.prog W = .ok () W' ∧ SetS W' b (n + 1) (l ++ [x]) ∧ Below w.heap.size w W' := by
  obtain ⟨W', h1, h2, h3⟩ := World.ownsMap.update h key_str Try.underlying53 (by unfold maxLen; omega) (key_string hx) (plainElem_bool Try.underlying4 true)
  refine ⟨W', h1, ?_, hB.grown h3 (by have := hB.size; omega) (fun k hk => by injection hk with hk; omega)⟩
  unfold SetS
  rw [setD_snoc]
  exact h2
theorem makeMap_none {t k e : TypeId} (h : Try.prog.underlying t = some (.map k e)) (w : World) : (Instr.makeMap t none).run Try.prog w = .ok (.map (some w.heap.size)) (w.alloc (.map #[] 0)) := by
  simp [Instr.makeMap]
set_option maxHeartbeats 4000000 in
theorem reservedSet_any (w : World) : Calls Try.prog 31 #[] w fun e w' => ∃ b, e = .returned (.map (some b)) ∧ SetS w' b 14 words8 ∧ Below w.heap.size w w' := by
  have hmm := makeMap_none (t := 53) Try.underlying53 w
  have hS := SetS.made w
  have hB := balloc8 w (.map #[] 0)
  obtain ⟨g, eg⟩ : ∃ g, g = w.heap.size := ⟨_, rfl⟩
  have hg : w.heap.size ≤ g := by omega
  rw [← eg] at hmm hS
  obtain ⟨w1, r1, s1, b1⟩ := hS.more (by omega) hB hg ⟨#[105, 110]⟩ (by decide)
  obtain ⟨w2, r2, s2, b2⟩ := s1.more (by omega) b1 hg ⟨#[102, 114, 111, 109]⟩ (by decide)
  obtain ⟨w3, r3, s3, b3⟩ := s2.more (by omega) b2 hg ⟨#[108, 101, 116]⟩ (by decide)
  obtain ⟨w4, r4, s4, b4⟩ := s3.more (by omega) b3 hg ⟨#[105, 102]⟩ (by decide)
  obtain ⟨w5, r5, s5, b5⟩ := s4.more (by omega) b4 hg ⟨#[101, 108, 115, 101]⟩ (by decide)
  obtain ⟨w6, r6, s6, b6⟩ := s5.more (by omega) b5 hg ⟨#[102, 111, 114]⟩ (by decide)
  obtain ⟨w7, r7, s7, b7⟩ := s6.more (by omega) b6 hg ⟨#[116, 111]⟩ (by decide)
  obtain ⟨w8, r8, s8, b8⟩ := s7.more (by omega) b7 hg ⟨#[111, 117, 116]⟩ (by decide)
  obtain ⟨w9, r9, s9, b9⟩ := s8.more (by omega) b8 hg ⟨#[97, 108, 108]⟩ (by decide)
  obtain ⟨w10, r10, s10, b10⟩ := s9.more (by omega) b9 hg ⟨#[100, 101, 102]⟩ (by decide)
  obtain ⟨w11, r11, s11, b11⟩ := s10.more (by omega) b10 hg ⟨#[114, 101, 116, 117, 114, 110]⟩ (by decide)
  obtain ⟨w12, r12, s12, b12⟩ := s11.more (by omega) b11 hg ⟨#[110, 117, 109]⟩ (by decide)
  obtain ⟨w13, r13, s13, b13⟩ := s12.more (by omega) b12 hg ⟨#[98, 105, 116]⟩ (by decide)
  obtain ⟨w14, r14, s14, b14⟩ := s13.more (by omega) b13 hg ⟨#[119, 111, 114, 100]⟩ (by decide)
  have HS := Lib.hid s14
  have HB := Lib.hid b14
  clear s1 b1 s2 b2 s3 b3 s4 b4 s5 b5 s6 b6 s7 b7 s8 b8 s9 b9 s10 b10 s11 b11 s12 b12 s13 b13 s14 b14 hS hB hg eg
  go_enter Try.func31, Try.ntmps31
  go_wp2_with fail
  go_ret
  exact ⟨g, rfl, HS.out, HB.out⟩

set_option maxHeartbeats 2000000 in
theorem isReserved_any (s : ByteArray) (w : World) (hs : s.size ≤ 140737488351232) : Calls Try.prog 18 #[.string s] w fun e w' => e = .returned (.bool (decide (M.bs s ∈ words8.map M.bs))) ∧ Below w.heap.size w w' := by
  have RS := Lib.hid (reservedSet_any w)
  have hkey := key_string (s := s) (by unfold maxLen; omega)
  obtain ⟨r, er⟩ : ∃ r, r = decide (M.bs s ∈ words8.map M.bs) := ⟨_, rfl⟩
  have HAT := Lib.hid (set_at words8 s)
  rw [← er] at HAT ⊢
  clear er
  go_enter Try.func18, Try.ntmps18
  go_wp2_with fail
  (with_reducible refine (RS.out).mono ?_)
  rintro e w' ⟨b, rfl, hS, hb⟩
  have HS := Lib.hid hS
  have HB := Lib.hid hb
  clear hS hb
  go_wp2_with (at_lookup; refine wpList_lookup_own_bool _ rfl _ _ 53 rfl 9 4 key_str Try.underlying53 Try.underlying4 (zero_bool _) b 14 _ rfl HS.out _ _ rfl hkey ?_; intro c hat; rw [HAT.out] at hat; injection hat with hat; injection hat with hat; subst hat)
  go_ret
  exact ⟨rfl, HB.out⟩
end Go.Proofs.Ytagdbbikhegoaaa
