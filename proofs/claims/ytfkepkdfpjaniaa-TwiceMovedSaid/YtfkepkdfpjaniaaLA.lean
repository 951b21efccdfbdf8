/-
  Or, Is, Small, Valid (joined).
-/
import Derived.Test.YtfkepkdfpjaniaaProg
import Derived.Test.YtfkepkdfpjaniaaMA
import Derived.WalkKit
import Derived.WalkSpells
import Derived.WalkLawsBesides
import Derived.Lib.Hide
import Derived.Below
namespace Go.Proofs.Ytfkepkdfpjaniaa
open Go.RowKit

/-- slot k of the frame holds v -/
def Has (a : Act) (k : Nat) (v : Value) : Prop := a.tmps[k]? = some v

theorem Has.eval {a : Act} {k : Nat} {v : Value} (h : Has a k v) : a.eval (.tmp k) = v := by
  unfold Has at h
  simp [Act.eval, Array.getD_eq_getD_getElem?, h]

theorem Has.put {a : Act} {k d : Nat} {v : Value} (x : Value) (h : Has a k v) (hd : d ≠ k) : Has (a.put (some d) x) k v := by
  unfold Has at *
  simp [Act.put, hd, h]

theorem Has.new {a : Act} {d : Nat} (x : Value) (h : d < a.tmps.size) : Has (a.put (some d) x) d x := by
  unfold Has
  simp [Act.put, h]

theorem put_size (a : Act) (d : Nat) (x : Value) : (a.put (some d) x).tmps.size = a.tmps.size := by simp [Act.put]
theorem put_defers (a : Act) (d : Nat) (x : Value) : (a.put (some d) x).defers = a.defers := by simp [Act.put]

section
variable {P : Program} {ops : Array Oper} {Q : Exit → Act → World → Prop} {a : Act} {w : World} {rest : List Oper}

theorem at_move {d k : Nat} {T : TypeId} {pos : String} {af : Array Edge} {v : Value} (h : Has a k v)
    (hn : wpList P ops Q rest (a.put (some d) v) w) : wpList P ops Q (⟨some d, .move (.tmp k), T, pos, af, none⟩ :: rest) a w := by
  refine wpList_plain rfl fun K hK => ?_
  have e := h.eval
  simp only [Oper.wp, execOp, e]
  exact hK _ _ hn

theorem at_assign {d k : Nat} {T : TypeId} {pos : String} {af : Array Edge} {v : Value} (h : Has a k v)
    (hn : wpList P ops Q rest (a.put (some d) v) w) : wpList P ops Q (⟨some d, .assign (.tmp k), T, pos, af, none⟩ :: rest) a w := by
  refine wpList_plain rfl fun K hK => ?_
  have e := h.eval
  simp only [Oper.wp, execOp, e]
  exact hK _ _ hn

theorem at_skip {o : Oper} {g : Nat × Bool} {d : Nat} {og : Oper} {dg : Nat} (hgd : o.guard = some g) (hd : o.dst = some d) (hog : ops[g.1]? = some og) (hdg : og.dst = some dg) (hv : Has a dg (.bool (!g.2)))
    (hn : wpList P ops Q rest (a.put (some d) undef) w) : wpList P ops Q (o :: rest) a w := by
  unfold wpList
  rw [if_neg (by
    unfold Has at hv
    simp [Region.wanted, hgd, yielded, hog, hdg, hv])]
  rw [hd]; exact hn

theorem at_taken {o : Oper} {g : Nat × Bool} {og : Oper} {dg : Nat} (hgd : o.guard = some g) (hog : ops[g.1]? = some og) (hdg : og.dst = some dg) (hv : Has a dg (.bool g.2))
    (hn : o.wp P a w (wpList P ops Q rest) Q) : wpList P ops Q (o :: rest) a w := by
  unfold wpList
  rw [if_pos (by
    unfold Has at hv
    simp [Region.wanted, hgd, yielded, hog, hdg, hv])]
  exact .inl hn

theorem at_pick {d k m : Nat} {T : TypeId} {pos : String} {af : Array Edge} {b : Bool} {v : Value} (hb : Has a k (.bool b)) (hv : b = false → Has a m v)
    (hn : wpList P ops Q rest (a.put (some d) (if b then .bool true else v)) w) : wpList P ops Q (⟨some d, .pick (.tmp k) (.const (.bool true)) (.tmp m), T, pos, af, none⟩ :: rest) a w := by
  refine wpList_plain rfl fun K hK => ?_
  have e := hb.eval
  cases b with
  | true =>
    simp only [Oper.wp, execOp, e]
    exact hK _ _ hn
  | false =>
    have e2 := (hv rfl).eval
    simp only [Oper.wp, execOp, e, e2]
    exact hK _ _ hn

theorem wp_rem {d k : Nat} {T T' T2 : TypeId} {pos : String} {af : Array Edge} {gd : Option (Nat × Bool)} {p q : Nat} {K : Act → World → Prop} (h : Has a k (.int .u32 p)) (_hp : p < 4294967296) (h1 : 1 ≤ q)
    (hn : K (a.put (some d) (.int .u32 ((p % q : Nat) : Int))) w) : Oper.wp P ⟨some d, .binOp .rem T (.tmp k) (.const (.int .u32 q)) T', T2, pos, af, gd⟩ a w K Q := by
  have e := h.eval
  have hq : ¬ q = 0 := by omega
  rw [Int.natCast_emod] at hn
  simp only [Oper.wp, execOp, e, eqGuard]
  go_simp
  exact hn

theorem wp_eql0 {d k : Nat} {T T' T2 : TypeId} {pos : String} {af : Array Edge} {gd : Option (Nat × Bool)} {x : Nat} {K : Act → World → Prop} (h : Has a k (.int .u32 x))
    (hn : K (a.put (some d) (.bool ((x : Int) == 0))) w) : Oper.wp P ⟨some d, .binOp .eql T (.tmp k) (.const (.int .u32 0)) T', T2, pos, af, gd⟩ a w K Q := by
  have e := h.eval
  simp only [Oper.wp, execOp, e, eqGuard]
  go_simp
  exact hn

theorem wp_move {d k : Nat} {T2 : TypeId} {pos : String} {af : Array Edge} {gd : Option (Nat × Bool)} {v : Value} {K : Act → World → Prop} (h : Has a k v)
    (hn : K (a.put (some d) v) w) : Oper.wp P ⟨some d, .move (.tmp k), T2, pos, af, gd⟩ a w K Q := by
  have e := h.eval
  simp only [Oper.wp, execOp, e]
  exact hn

/-- what is carried along the chain: the frame's width, the number in slot 0, the answer so far in slot k -/
structure Chain (a : Act) (n : Nat) (p : Nat) (k : Nat) (b : Bool) : Prop where
  size : a.tmps.size = n
  num : Has a 0 (.int .u32 p)
  ans : Has a k (.bool b)
  def0 : a.defers = []

set_option maxHeartbeats 800000 in
theorem or_group {n p k q g : Nat} {b : Bool} {T1 T2 T3 T4 T5 Ta Tb Tc Td : TypeId} {p1 p2 p3 p4 p5 : String} {a1 a2 a3 a4 a5 : Array Edge} {og : Oper}
    (h : Chain a n p k b) (hp : p < 4294967296) (hq : 1 ≤ q) (hk : k + 5 < n) (hk0 : 1 ≤ k) (hog : ops[g]? = some og) (hdg : og.dst = some (k + 1))
    (hn : ∀ a', Chain a' n p (k + 5) (b || ((p % q : Nat) : Int) == 0) → wpList P ops Q rest a' w) :
    wpList P ops Q (⟨some (k + 1), .move (.tmp k), T1, p1, a1, none⟩ :: ⟨some (k + 2), .move (.tmp 0), T2, p2, a2, some (g, false)⟩ ::
      ⟨some (k + 3), .binOp .rem Ta (.tmp (k + 2)) (.const (.int .u32 q)) Tb, T3, p3, a3, some (g, false)⟩ ::
      ⟨some (k + 4), .binOp .eql Tc (.tmp (k + 3)) (.const (.int .u32 0)) Td, T4, p4, a4, some (g, false)⟩ ::
      ⟨some (k + 5), .pick (.tmp (k + 1)) (.const (.bool true)) (.tmp (k + 4)), T5, p5, a5, none⟩ :: rest) a w := by
  obtain ⟨hs, h0, hb, hd⟩ := h
  refine at_move hb ?_
  have n1 := Has.new (a := a) (d := k + 1) (.bool b) (by omega)
  have z1 := Has.put (d := k + 1) (.bool b) h0 (by omega)
  have s1 := put_size a (k + 1) (.bool b)
  have d1 := put_defers a (k + 1) (.bool b)
  generalize a.put (some (k + 1)) (.bool b) = b1 at *
  cases b with
  | true =>
    refine at_skip rfl rfl hog hdg n1 ?_
    refine at_skip rfl rfl hog hdg (Has.put _ n1 (by omega)) ?_
    refine at_skip rfl rfl hog hdg (Has.put _ (Has.put _ n1 (by omega)) (by omega)) ?_
    refine at_pick (v := .bool false) (Has.put _ (Has.put _ (Has.put _ n1 (by omega)) (by omega)) (by omega)) (fun h => by cases h) (hn _ ⟨?_, ?_, ?_, ?_⟩)
    · simp only [put_size]; omega
    · exact Has.put _ (Has.put _ (Has.put _ (Has.put _ z1 (by omega)) (by omega)) (by omega)) (by omega)
    · exact Has.new _ (by simp only [put_size]; omega)
    · simp only [put_defers]; rw [d1, hd]
  | false =>
    refine at_taken rfl hog hdg n1 (wp_move z1 ?_)
    have n2 := Has.new (a := b1) (d := k + 2) (.int .u32 p) (by omega)
    have m1 := Has.put (d := k + 2) (.int .u32 p) n1 (by omega)
    refine at_taken rfl hog hdg m1 (wp_rem n2 hp hq ?_)
    refine at_taken rfl hog hdg (Has.put _ m1 (by omega)) (wp_eql0 (Has.new _ (by simp only [put_size]; omega)) ?_)
    refine at_pick (Has.put _ (Has.put _ m1 (by omega)) (by omega)) (fun _ => Has.new _ (by simp only [put_size]; omega)) (hn _ ⟨?_, ?_, ?_, ?_⟩)
    · simp only [put_size]; omega
    · exact Has.put _ (Has.put _ (Has.put _ (Has.put _ z1 (by omega)) (by omega)) (by omega)) (by omega)
    · exact Has.new _ (by simp only [put_size]; omega)
    · simp only [put_defers]; rw [d1, hd]

theorem or_first {n p q : Nat} {T1 T2 T3 Ta Tb Tc Td : TypeId} {p1 p2 p3 : String} {a1 a2 a3 : Array Edge}
    (hs : a.tmps.size = n) (h0 : Has a 0 (.int .u32 p)) (hd : a.defers = []) (hp : p < 4294967296) (hq : 1 ≤ q) (hn5 : 5 < n)
    (hn : ∀ a', Chain a' n p 5 (((p % q : Nat) : Int) == 0) → wpList P ops Q rest a' w) :
    wpList P ops Q (⟨some 3, .move (.tmp 0), T1, p1, a1, none⟩ ::
      ⟨some 4, .binOp .rem Ta (.tmp 3) (.const (.int .u32 q)) Tb, T2, p2, a2, none⟩ ::
      ⟨some 5, .binOp .eql Tc (.tmp 4) (.const (.int .u32 0)) Td, T3, p3, a3, none⟩ :: rest) a w := by
  refine at_move h0 (wpList_plain rfl fun K1 hK1 => wp_rem (Has.new _ (by omega)) hp hq (hK1 _ _ (wpList_plain rfl fun K2 hK2 => wp_eql0 (Has.new _ (by simp only [put_size]; omega)) (hK2 _ _ (hn _ ⟨?_, ?_, ?_, ?_⟩)))))
  · simp only [put_size]; omega
  · exact Has.put _ (Has.put _ (Has.put _ h0 (by omega)) (by omega)) (by omega)
  · exact Has.new _ (by simp only [put_size]; omega)
  · simp only [put_defers]; exact hd
end
end Go.Proofs.Ytfkepkdfpjaniaa
namespace Go.Proofs.Ytfkepkdfpjaniaa
open Go.RowKit

theorem ret_bool {a b : Bool} (h : a = b) : Ending.returned (.bool a) = .returned (.bool b) := by rw [h]

set_option maxHeartbeats 400000 in
theorem refIs_any (p : Nat) (w : World) (hp : p < 18446744073709551616) :
    Calls Try.prog 55 #[.int .u64 p] w fun e w' => e = .returned (.bool (M.isP p)) ∧ w = w' := by
  by_cases h3 : p < 3
  · go_enter Try.func55, Try.ntmps55
    go_wp2
    go_ret
    exact ⟨ret_bool (M.isP_small h3).symm, rfl⟩
  · by_cases h4 : 65537 < p
    · go_enter Try.func55, Try.ntmps55
      go_wp2
      go_ret
      exact ⟨ret_bool (M.isP_large h4).symm, rfl⟩
    · go_enter Try.func55, Try.ntmps55
      go_wp2
      go_loop [3] (fun t => ∃ d : Nat, 2 ≤ d ∧ d ≤ 257 ∧ t = .int .u64 d ∧ M.Tried p d) (fun t => 300 - (intOf t).toNat)
      case atStart => exact ⟨2, by omega, by omega, rfl, M.tried_two p⟩
      case round =>
        obtain ⟨d, h2, hd, rfl, ht⟩ := hrel
        have hdd : d * d ≤ 257 * 257 := Nat.mul_le_mul hd hd
        have hdi : (d : Int) * d ≤ 66049 := by omega
        have hd0 : (0 : Int) ≤ (d : Int) * d := by omega
        go_wp2
        · have h1 : d * d ≤ p := by have h : (d : Int) * d ≤ p := by assumption
                                    omega
          have h0 : p % d = 0 := by have h : ((p : Int) % (d : Int) == 0) = true := by assumption
                                    have h' := eq_of_beq h
                                    omega
          go_ret
          exact ⟨ret_bool (M.isP_not h2 h1 h0).symm, rfl⟩
        · have h1 : d * d ≤ p := by have h : (d : Int) * d ≤ p := by assumption
                                    omega
          have h0 : p % d ≠ 0 := by have h : ((p : Int) % (d : Int) == 0) = false := by assumption
                                    have h' := ne_of_beq_false h
                                    omega
          have h5 : d < 257 := by
            apply Nat.lt_of_not_le; intro hc
            have := Nat.mul_le_mul hc hc; omega
          go_round
          case rel => exact ⟨d + 1, by omega, by omega, by go_num, M.tried_step ht h0⟩
          case measure => simp [intOf]; omega
        · have h1 : p < d * d := by have h : (p : Int) < (d : Int) * d := by assumption
                                    omega
          go_ret
          exact ⟨ret_bool (M.isP_of_tried (by omega) (by omega) ht h1).symm, rfl⟩

end Go.Proofs.Ytfkepkdfpjaniaa
namespace Go.Proofs.Ytfkepkdfpjaniaa
open Go.RowKit

set_option maxHeartbeats 2000000 in
set_option maxRecDepth 100000 in
theorem hasSmall_any (p : Nat) (w : World) (hp : p < 4294967296) :
    Calls Try.prog 98 #[.int .u32 p] w fun e w' => e = .returned (.bool (M.anyOf p false M.smallPrimes)) ∧ w = w' := by
  go_enter Try.func98, Try.ntmps98
  go_step
  go_step
  go_step
  go_step
  go_step
  go_step
  go_step
  go_step
  go_step
  go_step
  go_step

  refine or_first (q := 3) rfl rfl rfl hp (by omega) (n := 266) (by omega) fun a1 c1 => ?_
  refine or_group (q := 5) (k := 5) (n := 266) c1 hp (by omega) (by omega) (by omega) (g := 3) rfl rfl fun a2 c2 => ?_
  clear c1
  refine or_group (q := 7) (k := 10) (n := 266) c2 hp (by omega) (by omega) (by omega) (g := 8) rfl rfl fun a3 c3 => ?_
  clear c2
  refine or_group (q := 11) (k := 15) (n := 266) c3 hp (by omega) (by omega) (by omega) (g := 13) rfl rfl fun a4 c4 => ?_
  clear c3
  refine or_group (q := 13) (k := 20) (n := 266) c4 hp (by omega) (by omega) (by omega) (g := 18) rfl rfl fun a5 c5 => ?_
  clear c4
  refine or_group (q := 17) (k := 25) (n := 266) c5 hp (by omega) (by omega) (by omega) (g := 23) rfl rfl fun a6 c6 => ?_
  clear c5
  refine or_group (q := 19) (k := 30) (n := 266) c6 hp (by omega) (by omega) (by omega) (g := 28) rfl rfl fun a7 c7 => ?_
  clear c6
  refine or_group (q := 23) (k := 35) (n := 266) c7 hp (by omega) (by omega) (by omega) (g := 33) rfl rfl fun a8 c8 => ?_
  clear c7
  refine or_group (q := 29) (k := 40) (n := 266) c8 hp (by omega) (by omega) (by omega) (g := 38) rfl rfl fun a9 c9 => ?_
  clear c8
  refine or_group (q := 31) (k := 45) (n := 266) c9 hp (by omega) (by omega) (by omega) (g := 43) rfl rfl fun a10 c10 => ?_
  clear c9
  refine or_group (q := 37) (k := 50) (n := 266) c10 hp (by omega) (by omega) (by omega) (g := 48) rfl rfl fun a11 c11 => ?_
  clear c10
  refine or_group (q := 41) (k := 55) (n := 266) c11 hp (by omega) (by omega) (by omega) (g := 53) rfl rfl fun a12 c12 => ?_
  clear c11
  refine or_group (q := 43) (k := 60) (n := 266) c12 hp (by omega) (by omega) (by omega) (g := 58) rfl rfl fun a13 c13 => ?_
  clear c12
  refine or_group (q := 47) (k := 65) (n := 266) c13 hp (by omega) (by omega) (by omega) (g := 63) rfl rfl fun a14 c14 => ?_
  clear c13
  refine or_group (q := 53) (k := 70) (n := 266) c14 hp (by omega) (by omega) (by omega) (g := 68) rfl rfl fun a15 c15 => ?_
  clear c14
  refine or_group (q := 59) (k := 75) (n := 266) c15 hp (by omega) (by omega) (by omega) (g := 73) rfl rfl fun a16 c16 => ?_
  clear c15
  refine or_group (q := 61) (k := 80) (n := 266) c16 hp (by omega) (by omega) (by omega) (g := 78) rfl rfl fun a17 c17 => ?_
  clear c16
  refine or_group (q := 67) (k := 85) (n := 266) c17 hp (by omega) (by omega) (by omega) (g := 83) rfl rfl fun a18 c18 => ?_
  clear c17
  refine or_group (q := 71) (k := 90) (n := 266) c18 hp (by omega) (by omega) (by omega) (g := 88) rfl rfl fun a19 c19 => ?_
  clear c18
  refine or_group (q := 73) (k := 95) (n := 266) c19 hp (by omega) (by omega) (by omega) (g := 93) rfl rfl fun a20 c20 => ?_
  clear c19
  refine or_group (q := 79) (k := 100) (n := 266) c20 hp (by omega) (by omega) (by omega) (g := 98) rfl rfl fun a21 c21 => ?_
  clear c20
  refine or_group (q := 83) (k := 105) (n := 266) c21 hp (by omega) (by omega) (by omega) (g := 103) rfl rfl fun a22 c22 => ?_
  clear c21
  refine or_group (q := 89) (k := 110) (n := 266) c22 hp (by omega) (by omega) (by omega) (g := 108) rfl rfl fun a23 c23 => ?_
  clear c22
  refine or_group (q := 97) (k := 115) (n := 266) c23 hp (by omega) (by omega) (by omega) (g := 113) rfl rfl fun a24 c24 => ?_
  clear c23
  refine or_group (q := 101) (k := 120) (n := 266) c24 hp (by omega) (by omega) (by omega) (g := 118) rfl rfl fun a25 c25 => ?_
  clear c24
  refine or_group (q := 103) (k := 125) (n := 266) c25 hp (by omega) (by omega) (by omega) (g := 123) rfl rfl fun a26 c26 => ?_
  clear c25
  refine or_group (q := 107) (k := 130) (n := 266) c26 hp (by omega) (by omega) (by omega) (g := 128) rfl rfl fun a27 c27 => ?_
  clear c26
  refine or_group (q := 109) (k := 135) (n := 266) c27 hp (by omega) (by omega) (by omega) (g := 133) rfl rfl fun a28 c28 => ?_
  clear c27
  refine or_group (q := 113) (k := 140) (n := 266) c28 hp (by omega) (by omega) (by omega) (g := 138) rfl rfl fun a29 c29 => ?_
  clear c28
  refine or_group (q := 127) (k := 145) (n := 266) c29 hp (by omega) (by omega) (by omega) (g := 143) rfl rfl fun a30 c30 => ?_
  clear c29
  refine or_group (q := 131) (k := 150) (n := 266) c30 hp (by omega) (by omega) (by omega) (g := 148) rfl rfl fun a31 c31 => ?_
  clear c30
  refine or_group (q := 137) (k := 155) (n := 266) c31 hp (by omega) (by omega) (by omega) (g := 153) rfl rfl fun a32 c32 => ?_
  clear c31
  refine or_group (q := 139) (k := 160) (n := 266) c32 hp (by omega) (by omega) (by omega) (g := 158) rfl rfl fun a33 c33 => ?_
  clear c32
  refine or_group (q := 149) (k := 165) (n := 266) c33 hp (by omega) (by omega) (by omega) (g := 163) rfl rfl fun a34 c34 => ?_
  clear c33
  refine or_group (q := 151) (k := 170) (n := 266) c34 hp (by omega) (by omega) (by omega) (g := 168) rfl rfl fun a35 c35 => ?_
  clear c34
  refine or_group (q := 157) (k := 175) (n := 266) c35 hp (by omega) (by omega) (by omega) (g := 173) rfl rfl fun a36 c36 => ?_
  clear c35
  refine or_group (q := 163) (k := 180) (n := 266) c36 hp (by omega) (by omega) (by omega) (g := 178) rfl rfl fun a37 c37 => ?_
  clear c36
  refine or_group (q := 167) (k := 185) (n := 266) c37 hp (by omega) (by omega) (by omega) (g := 183) rfl rfl fun a38 c38 => ?_
  clear c37
  refine or_group (q := 173) (k := 190) (n := 266) c38 hp (by omega) (by omega) (by omega) (g := 188) rfl rfl fun a39 c39 => ?_
  clear c38
  refine or_group (q := 179) (k := 195) (n := 266) c39 hp (by omega) (by omega) (by omega) (g := 193) rfl rfl fun a40 c40 => ?_
  clear c39
  refine or_group (q := 181) (k := 200) (n := 266) c40 hp (by omega) (by omega) (by omega) (g := 198) rfl rfl fun a41 c41 => ?_
  clear c40
  refine or_group (q := 191) (k := 205) (n := 266) c41 hp (by omega) (by omega) (by omega) (g := 203) rfl rfl fun a42 c42 => ?_
  clear c41
  refine or_group (q := 193) (k := 210) (n := 266) c42 hp (by omega) (by omega) (by omega) (g := 208) rfl rfl fun a43 c43 => ?_
  clear c42
  refine or_group (q := 197) (k := 215) (n := 266) c43 hp (by omega) (by omega) (by omega) (g := 213) rfl rfl fun a44 c44 => ?_
  clear c43
  refine or_group (q := 199) (k := 220) (n := 266) c44 hp (by omega) (by omega) (by omega) (g := 218) rfl rfl fun a45 c45 => ?_
  clear c44
  refine or_group (q := 211) (k := 225) (n := 266) c45 hp (by omega) (by omega) (by omega) (g := 223) rfl rfl fun a46 c46 => ?_
  clear c45
  refine or_group (q := 223) (k := 230) (n := 266) c46 hp (by omega) (by omega) (by omega) (g := 228) rfl rfl fun a47 c47 => ?_
  clear c46
  refine or_group (q := 227) (k := 235) (n := 266) c47 hp (by omega) (by omega) (by omega) (g := 233) rfl rfl fun a48 c48 => ?_
  clear c47
  refine or_group (q := 229) (k := 240) (n := 266) c48 hp (by omega) (by omega) (by omega) (g := 238) rfl rfl fun a49 c49 => ?_
  clear c48
  refine or_group (q := 233) (k := 245) (n := 266) c49 hp (by omega) (by omega) (by omega) (g := 243) rfl rfl fun a50 c50 => ?_
  clear c49
  refine or_group (q := 239) (k := 250) (n := 266) c50 hp (by omega) (by omega) (by omega) (g := 248) rfl rfl fun a51 c51 => ?_
  clear c50
  refine or_group (q := 241) (k := 255) (n := 266) c51 hp (by omega) (by omega) (by omega) (g := 253) rfl rfl fun a52 c52 => ?_
  clear c51
  refine or_group (q := 251) (k := 260) (n := 266) c52 hp (by omega) (by omega) (by omega) (g := 258) rfl rfl fun a53 c53 => ?_
  clear c52
  have hz := c53.size
  refine at_assign c53.ans (wpList_nil ?_)
  go_step
  go_step
  go_step
  refine bodyPost_ret (v := .bool (M.anyOf p false M.smallPrimes)) ?_ ?_ ⟨rfl, rfl⟩
  · rw [results_tmp rfl]
    have e := (Has.new (a := a53) (d := 2) (.bool (M.anyOf p false M.smallPrimes)) (by omega)).eval
    exact congrArg (fun v => Result.ok v w) e
  · exact c53.def0

set_option maxHeartbeats 400000 in
theorem hasDivisor_any (p : Nat) (w : World) (hp : p < 65536) (h3 : 3 ≤ p) (ho : p % 2 = 1) :
    Calls Try.prog 97 #[.int .u32 p] w fun e w' => e = .returned (.bool (!M.isP p)) ∧ w = w' := by
  go_enter Try.func97, Try.ntmps97
  go_wp2
  go_loop [3] (fun t => ∃ d : Nat, 3 ≤ d ∧ d ≤ 258 ∧ d % 2 = 1 ∧ t = .int .u32 d ∧ M.Tried p d) (fun t => 300 - (intOf t).toNat)
  case atStart => exact ⟨3, by omega, by omega, by omega, rfl, M.tried_step (M.tried_two p) (by omega)⟩
  case round =>
    obtain ⟨d, h2, hd, hdo, rfl, ht⟩ := hrel
    have hdd : d * d ≤ 258 * 258 := Nat.mul_le_mul hd hd
    have hdi : (d : Int) * d ≤ 66564 := by omega
    have hd0 : (0 : Int) ≤ (d : Int) * d := by omega
    have HO : Hid (d % 2 = 1) := Lib.hid hdo
    have HP : Hid (p % 2 = 1) := Lib.hid ho
    clear hdo ho
    go_wp2
    · have h1 : d * d ≤ p := by have h : (d : Int) * d ≤ p := by assumption
                                omega
      have h0 : p % d = 0 := by have h : ((p : Int) % (d : Int) == 0) = true := by assumption
                                have h' := eq_of_beq h
                                omega
      go_ret
      exact ⟨ret_bool (by rw [M.isP_not (by omega) h1 h0]; rfl), rfl⟩
    · have h1 : d * d ≤ p := by have h : (d : Int) * d ≤ p := by assumption
                                omega
      have h0 : p % d ≠ 0 := by have h : ((p : Int) % (d : Int) == 0) = false := by assumption
                                have h' := ne_of_beq_false h
                                omega
      have h5 : d < 256 := by
        apply Nat.lt_of_not_le; intro hc
        have := Nat.mul_le_mul hc hc; omega
      have ho := HO.out
      have hpo := HP.out
      have h6 : p % (d + 1) ≠ 0 := by
        intro hc
        have : 2 ∣ p := Nat.dvd_trans (Nat.dvd_of_mod_eq_zero (by omega)) (Nat.dvd_of_mod_eq_zero hc)
        omega
      clear ho
      go_round
      case rel => exact ⟨d + 2, by omega, by omega, by have := HO.out; omega, by go_num, M.tried_step (M.tried_step ht h0) h6⟩
      case measure => simp [intOf]; omega
    · have h1 : p < d * d := by have h : (p : Int) < (d : Int) * d := by assumption
                                omega
      go_ret
      exact ⟨ret_bool (by rw [M.isP_of_tried (by omega) (by omega) ht h1]; rfl), rfl⟩

set_option maxHeartbeats 400000 in
set_option maxRecDepth 100000 in
theorem is_any (p : Nat) (w : World) (hp : p < 18446744073709551616) :
    Calls Try.prog 75 #[.int .u64 p] w fun e w' => e = .returned (.bool (M.isP p)) ∧ w = w' := by
  by_cases h3 : p < 3
  · go_enter Try.func75, Try.ntmps75
    go_wp2
    go_ret
    exact ⟨ret_bool (M.isP_small h3).symm, rfl⟩
  · by_cases h4 : 65537 < p
    · go_enter Try.func75, Try.ntmps75
      go_wp2
      go_ret
      exact ⟨ret_bool (M.isP_large h4).symm, rfl⟩
    · by_cases h2 : p % 2 = 0
      · have hb : ((p : Int) % 2 == 0) = true := by simp; omega
        have HP : Hid (p % 2 = 0) := Lib.hid h2
        clear h2
        go_enter Try.func75, Try.ntmps75
        go_wp2
        go_ret
        exact ⟨ret_bool (M.isP_even (by omega) HP.out).symm, rfl⟩
      · have hb : ((p : Int) % 2 == 0) = false := by simp; omega
        have HP : Hid (p % 2 = 1) := Lib.hid (by omega)
        clear h2 hp
        have h4' : p ≤ 65537 := by omega
        clear h4
        by_cases h5 : p < 256
        · go_enter Try.func75, Try.ntmps75
          go_wp2_with (go_at_call 97; refine (hasDivisor_any p _ (by omega) (by omega) HP.out).mono ?_; rintro e w' ⟨rfl, rfl⟩)
          go_ret
          exact ⟨ret_bool (by simp), rfl⟩
        · go_enter Try.func75, Try.ntmps75
          go_wp2_with (go_at_call 98; refine (hasSmall_any p _ (by omega)).mono ?_; rintro e w' ⟨rfl, rfl⟩)
          go_ret
          exact ⟨ret_bool (M.anyOf_isP (by omega) (by omega) HP.out), rfl⟩
end Go.Proofs.Ytfkepkdfpjaniaa
namespace Go.Proofs.Ytfkepkdfpjaniaa
open Go.RowKit

/-- the slice value v reads as the numbers zs -/
def Nums (w : World) (v : Value) (zs : List Nat) : Prop :=
  (∀ n ∈ zs, n < 18446744073709551616) ∧ zs.length ≤ 17592186043904 ∧
  ((∃ a cap, v = .slice a 0 cap ∧ zs = [] ∧ (a = none → cap = 0)) ∨
   ∃ b off cap, v = .slice (some ⟨b, off, none⟩) zs.length cap ∧ zs.length ≤ cap ∧ b < w.heap.size ∧ ∀ i, i < zs.length → w.cell? ⟨b, off + i, none⟩ = some (.int .u64 (zs.getD i 0)))

set_option maxHeartbeats 400000 in
theorem valid_no (p : Nat) (a : Option Addr) (len cap : Nat) (w : World) (hp : p < 18446744073709551616) (hi : M.isP p = false) :
    Calls Try.prog 80 #[.int .u64 p, .slice a len cap] w fun e w' => e = .returned (.bool false) ∧ w = w' := by
  have HI : Hid (M.isP p = false) := Lib.hid hi
  have hc := is_any p w hp
  rw [hi] at hc
  have HC := Lib.hid hc
  clear hi hc hp
  go_enter Try.func80, Try.ntmps80
  go_wp2_with (go_at_call 75; refine HC.out.mono ?_; rintro e w' ⟨rfl, rfl⟩)
  go_ret
  exact ⟨rfl, rfl⟩

set_option maxHeartbeats 400000 in
theorem valid_yes (p : Nat) (b off cap : Nat) (zs : List Nat) (w : World) (hp : p < 18446744073709551616) (hl : zs.length ≤ 17592186043904) (hi : M.isP p = true)
    (hcell : ∀ i, i < zs.length → w.cell? ⟨b, off + i, none⟩ = some (.int .u64 (zs.getD i 0))) :
    Calls Try.prog 80 #[.int .u64 p, .slice (some ⟨b, off, none⟩) zs.length cap] w fun e w' => e = .returned (.bool (M.within p zs)) ∧ w = w' := by
  have hc := is_any p w hp
  rw [hi] at hc
  have HC := Lib.hid hc
  have HV := Lib.hid hcell
  clear hi hc hp hcell
  go_enter Try.func80, Try.ntmps80
  go_wp2_with (go_at_call 75; refine HC.out.mono ?_; rintro e w' ⟨rfl, rfl⟩)
  go_loop [12] (fun t => ∃ k : Nat, k ≤ zs.length ∧ t = .int .i64 k ∧ M.within p (zs.take k) = true) (fun t => zs.length - (intOf t).toNat)
  case atStart => exact ⟨0, by omega, rfl, by simp [M.within]⟩
  case round =>
    obtain ⟨k, hk, rfl, hw⟩ := hrel
    have HW := Lib.hid hw
    clear hw
    by_cases hlt : k < zs.length
    · have hc := HV.out k hlt
      obtain ⟨x, hx⟩ : ∃ x, x = zs.getD k 0 := ⟨_, rfl⟩
      rw [← hx] at hc
      have HX := Lib.hid hx
      clear hx
      go_wp2
      · have h : p ≤ x := by omega
        go_ret
        exact ⟨ret_bool (M.within_not hlt (by rw [← HX.out]; omega)).symm, rfl⟩
      · have h : x < p := by omega
        go_round
        case rel => exact ⟨k + 1, by omega, by go_num, M.within_take hlt HW.out (by rw [← HX.out]; omega)⟩
        case measure => simp [intOf]; omega
    · go_wp2
      go_ret
      have hk' : k = zs.length := by omega
      have h := HW.out
      rw [hk', List.take_length] at h
      exact ⟨ret_bool h.symm, rfl⟩

set_option maxHeartbeats 400000 in
theorem valid_nil (p : Nat) (a : Option Addr) (cap : Nat) (w : World) (hp : p < 18446744073709551616) (hi : M.isP p = true) :
    Calls Try.prog 80 #[.int .u64 p, .slice a 0 cap] w fun e w' => e = .returned (.bool true) ∧ w = w' := by
  have hc := is_any p w hp
  rw [hi] at hc
  have HC := Lib.hid hc
  clear hi hc hp
  go_enter Try.func80, Try.ntmps80
  go_wp2_with (go_at_call 75; refine HC.out.mono ?_; rintro e w' ⟨rfl, rfl⟩)
  go_loop [12] (fun t => t = .int .i64 0) (fun _ => 0)
  case atStart => rfl
  case round =>
    obtain rfl := hrel
    go_wp2
    go_ret
    exact ⟨rfl, rfl⟩

theorem valid_any (p : Nat) (v : Value) (zs : List Nat) (w : World) (hp : p < 18446744073709551616) (hv : Nums w v zs) :
    Calls Try.prog 80 #[.int .u64 p, v] w fun e w' => e = .returned (.bool (M.validB p zs)) ∧ w = w' := by
  unfold M.validB
  obtain ⟨_, hl, hv⟩ := hv
  cases hi : M.isP p with
  | false =>
    rcases hv with ⟨a, cap, rfl, rfl, _⟩ | ⟨b, off, cap, rfl, _, _, _⟩
    · exact valid_no p a 0 cap w hp hi
    · exact valid_no p _ _ cap w hp hi
  | true =>
    rcases hv with ⟨a, cap, rfl, rfl, _⟩ | ⟨b, off, cap, rfl, _, _, hc⟩
    · exact valid_nil p a cap w hp hi
    · exact valid_yes p b off cap zs w hp hl hi hc

/-- what lies below a world's end still reads as it did behind new blocks -/
theorem Nums.below {w w' : World} {v : Value} {zs : List Nat} (h : Nums w v zs) (hb : Below w.heap.size w w') : Nums w' v zs := by
  obtain ⟨h1, h2, h3⟩ := h
  refine ⟨h1, h2, ?_⟩
  rcases h3 with h3 | ⟨b, off, cap, e, hc, hl, hcell⟩
  · exact .inl h3
  · exact .inr ⟨b, off, cap, e, hc, Nat.lt_of_lt_of_le hl hb.size, fun i hi => (hb.cell (p := ⟨b, off + i, none⟩) hl).trans (hcell i hi)⟩

/-- a row of the call's own reads as its numbers -/
theorem nums_of_owns {w : World} {base : Nat} {v : Value} {n : Nat} {zs : List Nat} (h : w.ownsRow base 22 1 v n (zs.map fun (z : Nat) => Value.int .u64 z)) (hz : ∀ n ∈ zs, n < 18446744073709551616) (hl : zs.length ≤ 17592186043904) : Nums w v zs := by
  have hn : zs.length = n := by have := h.1; simpa using this
  refine ⟨hz, hl, ?_⟩
  have hlt := h.lt
  have hcells := fun g hg => h.cells (g := g) hg
  rcases h.2 with ⟨rfl, h0⟩ | ⟨g, cap, cur, rfl, hb, hg, hc, _⟩
  · left
    refine ⟨none, 0, rfl, List.eq_nil_of_length_eq_zero (by omega), fun _ => rfl⟩
  · right
    refine ⟨g, 0, cap, by rw [hn], by omega, (hlt g rfl).2, fun i hi => ?_⟩
    have := hcells g rfl i (.int .u64 ((zs.getD i 0 : Nat) : Int)) (by simp [List.getD_eq_getElem?_getD, hi])
    rw [Addr.add_lit] at this
    exact this

/-! ### The check of numbers that the caller writes out: a new block -/
theorem nums1 (w : World) (a : Nat) (ha : a < 18446744073709551616) : Nums (w.alloc (.cells #[.int .u64 a] 22)) (.slice (some ⟨w.heap.size, 0, none⟩) 1 1) [a] := by
  refine ⟨by simpa using ha, by simp, .inr ⟨_, _, _, rfl, by simp, by simp, ?_⟩⟩
  intro i hi
  match i, hi with
  | 0, _ => simp
theorem nums2 (w : World) (a b : Nat) (ha : a < 18446744073709551616) (hb : b < 18446744073709551616) :
    Nums (w.alloc (.cells #[.int .u64 a, .int .u64 b] 22)) (.slice (some ⟨w.heap.size, 0, none⟩) 2 2) [a, b] := by
  refine ⟨by simp; omega, by simp, .inr ⟨_, _, _, rfl, by simp, by simp, ?_⟩⟩
  intro i hi
  match i, hi with
  | 0, _ => simp
  | 1, _ => simp
theorem nums3 (w : World) (a b c : Nat) (ha : a < 18446744073709551616) (hb : b < 18446744073709551616) (hc : c < 18446744073709551616) :
    Nums (w.alloc (.cells #[.int .u64 a, .int .u64 b, .int .u64 c] 22)) (.slice (some ⟨w.heap.size, 0, none⟩) 3 3) [a, b, c] := by
  refine ⟨by simp; omega, by simp, .inr ⟨_, _, _, rfl, by simp, by simp, ?_⟩⟩
  intro i hi
  match i, hi with
  | 0, _ => simp
  | 1, _ => simp
  | 2, _ => simp

theorem valid0 (p : Nat) (w : World) (hp : p < 18446744073709551616) {r : Bool} (hr : M.isP p = r) :
    Calls Try.prog 80 #[.int .u64 p, .slice none 0 0] w fun e w' => e = .returned (.bool r) ∧ w = w' := by
  subst hr
  cases hi : M.isP p with
  | false => exact valid_no p none 0 0 w hp hi
  | true => exact valid_nil p none 0 w hp hi
theorem valid1 (p a : Nat) (w : World) (hp : p < 18446744073709551616) (ha : a < 18446744073709551616) {r : Bool} (hr : M.validB p [a] = r) :
    Calls Try.prog 80 #[.int .u64 p, .slice (some ⟨w.heap.size, 0, none⟩) 1 1] (w.alloc (.cells #[.int .u64 a] 22)) fun e w' => e = .returned (.bool r) ∧ w.alloc (.cells #[.int .u64 a] 22) = w' := by
  subst hr; exact valid_any p _ _ _ hp (nums1 w a ha)
theorem valid2 (p a b : Nat) (w : World) (hp : p < 18446744073709551616) (ha : a < 18446744073709551616) (hb : b < 18446744073709551616) {r : Bool} (hr : M.validB p [a, b] = r) :
    Calls Try.prog 80 #[.int .u64 p, .slice (some ⟨w.heap.size, 0, none⟩) 2 2] (w.alloc (.cells #[.int .u64 a, .int .u64 b] 22)) fun e w' => e = .returned (.bool r) ∧ w.alloc (.cells #[.int .u64 a, .int .u64 b] 22) = w' := by
  subst hr; exact valid_any p _ _ _ hp (nums2 w a b ha hb)
end Go.Proofs.Ytfkepkdfpjaniaa
