/-
  Tokens: the reference's lists of strings.
-/
import Derived.Test.YtagdbbikhegoaaaKc
namespace Go.Proofs.Ytagdbbikhegoaaa
open Go.RowKit
set_option linter.unusedVariables false
set_option maxRecDepth 100000

theorem M.str_ne {x s : ByteArray} (h : x ≠ s) : (x.toList == s.toList) = false := by
  rw [beq_eq_false_iff_ne, ByteArray.toList_eq, ByteArray.toList_eq]
  intro e
  obtain ⟨⟨a⟩⟩ := x
  obtain ⟨⟨b⟩⟩ := s
  exact h (by rw [show a = b from e])
/-- v reads, in w, as a list of strings -/
def StrS (w : World) (v : Value) (L : List ByteArray) : Prop :=
  L.length ≤ 1000000 ∧ ∃ A cap, v = .slice A L.length cap ∧ (0 < L.length → ∃ b off, A = some ⟨b, off, none⟩ ∧ ∀ i, i < L.length → w.cell? ⟨b, off + i, none⟩ = some (.string (L.getD i ByteArray.empty)))
set_option maxHeartbeats 2000000 in
theorem among_any (v : Value) (L : List ByteArray) (s : ByteArray) (w : World) (hv : StrS w v L) : Calls Try.prog 27 #[v, .string s] w fun e w' => e = .returned (.bool (decide (M.bs s ∈ L.map M.bs))) ∧ w = w' := by
  have hud : ∀ b : Bool, undef ≠ Value.bool b := fun b h => by cases h
  obtain ⟨hl, A, cap, rfl, hc⟩ := hv
  have HC := Lib.hid hc
  clear hc
  obtain ⟨r, er⟩ : ∃ r, r = decide (M.bs s ∈ L.map M.bs) := ⟨_, rfl⟩
  rw [← er]
  have HR := Lib.hid er
  clear er
  obtain ⟨n, en⟩ : ∃ n, n = L.length := ⟨_, rfl⟩
  rw [← en] at HC hl ⊢
  have HN := Lib.hid en
  clear en
  go_enter Try.func27, Try.ntmps27
  go_wp2_with fail
  go_loop [9] (fun ti => ∃ i : Nat, i ≤ n ∧ ti = .int .i64 i ∧ (∀ j, j < i → L.getD j ByteArray.empty ≠ s)) (fun ti => n - (intOf ti).toNat)
  case atStart => exact ⟨0, by omega, rfl, fun j hj => absurd hj (by omega)⟩
  case round =>
    obtain ⟨i, hi, rfl, hall⟩ := hrel
    have HA := Lib.hid hall
    clear hall
    by_cases hlt : i < n
    · obtain ⟨b, off, rfl, hcell⟩ := HC.out (by omega)
      have hx := hcell i hlt
      obtain ⟨x, ex⟩ : ∃ x, x = L.getD i ByteArray.empty := ⟨_, rfl⟩
      rw [← ex] at hx
      have EX := Lib.hid ex
      clear hcell ex
      by_cases hxs : x = s
      · have HX := Lib.hid hxs
        obtain rfl : r = true := by
          rw [HR.out, decide_eq_true_eq, ← hxs, EX.out]
          refine List.mem_map_of_mem ?_
          have hi' : i < L.length := by rw [← HN.out]; exact hlt
          rw [List.getD_eq_getElem?_getD, List.getElem?_eq_getElem hi']
          exact List.getElem_mem hi'
        go_wp2_with fail
        go_ret
        exact ⟨rfl, rfl⟩
      · have HX := Lib.hid hxs
        have hq := M.str_ne hxs
        clear hxs
        go_wp2_with fail
        go_round
        case rel => exact ⟨i + 1, by omega, by go_num, fun j hj => by
          rcases (show j < i ∨ j = i by omega) with h | rfl
          · exact HA.out j h
          · rw [← EX.out]; exact HX.out⟩
        case measure => simp [intOf]; omega
    · obtain rfl : i = n := by omega
      obtain rfl : r = false := by
        rw [HR.out, decide_eq_false_iff_not]
        intro h
        obtain ⟨x, hx, hb⟩ := List.mem_map.1 h
        obtain ⟨j, hj, rfl⟩ := List.getElem_of_mem hx
        refine HA.out j (by rw [HN.out]; exact hj) ?_
        rw [List.getD_eq_getElem?_getD, List.getElem?_eq_getElem hj]
        exact M.bs_inj hb
      go_wp2_with fail
      go_ret
      exact ⟨rfl, rfl⟩

/-- the reserved words, in the reference's order -/
def words8 : List ByteArray := [⟨#[105, 110]⟩, ⟨#[102, 114, 111, 109]⟩, ⟨#[108, 101, 116]⟩, ⟨#[105, 102]⟩, ⟨#[101, 108, 115, 101]⟩, ⟨#[102, 111, 114]⟩, ⟨#[116, 111]⟩, ⟨#[111, 117, 116]⟩, ⟨#[97, 108, 108]⟩, ⟨#[100, 101, 102]⟩, ⟨#[114, 101, 116, 117, 114, 110]⟩, ⟨#[110, 117, 109]⟩, ⟨#[98, 105, 116]⟩, ⟨#[119, 111, 114, 100]⟩]
/-- the signs, in the reference's order -/
def signs8 : List ByteArray := [⟨#[61, 61]⟩, ⟨#[40]⟩, ⟨#[41]⟩, ⟨#[91]⟩, ⟨#[93]⟩, ⟨#[123]⟩, ⟨#[125]⟩, ⟨#[44]⟩, ⟨#[58]⟩, ⟨#[59]⟩, ⟨#[61]⟩, ⟨#[60]⟩, ⟨#[43]⟩, ⟨#[45]⟩, ⟨#[42]⟩, ⟨#[38]⟩, ⟨#[124]⟩, ⟨#[94]⟩, ⟨#[33]⟩]
theorem strS_new (w : World) (L : List ByteArray) (t : TypeId) (h : L.length ≤ 1000000) : StrS (w.alloc (.cells (L.map Value.string).toArray t)) (.slice (some ⟨w.heap.size, 0, none⟩) L.length L.length) L :=
  ⟨h, _, _, rfl, fun _ => ⟨_, _, rfl, fun i hi => by simp [hi, List.getD_eq_getElem?_getD]⟩⟩
set_option maxHeartbeats 2000000 in
theorem reserved_any (w : World) : Calls Try.prog 32 #[] w fun e w' => ∃ v, e = .returned v ∧ StrS w' v words8 ∧ Below w.heap.size w w' := by
  have hud : ∀ b : Bool, undef ≠ Value.bool b := fun b h => by cases h
  go_enter Try.func32, Try.ntmps32
  go_wp2_with fail
  go_ret
  exact ⟨_, rfl, strS_new w words8 _ (by decide), (Below.refl _ _).alloc (Nat.le_refl _) _⟩
set_option maxHeartbeats 2000000 in
theorem signs_any (w : World) : Calls Try.prog 28 #[] w fun e w' => ∃ v, e = .returned v ∧ StrS w' v signs8 ∧ Below w.heap.size w w' := by
  have hud : ∀ b : Bool, undef ≠ Value.bool b := fun b h => by cases h
  go_enter Try.func28, Try.ntmps28
  go_wp2_with fail
  go_ret
  exact ⟨_, rfl, strS_new w signs8 _ (by decide), (Below.refl _ _).alloc (Nat.le_refl _) _⟩
namespace M
/-- is a text a reserved word? -/
def wordB (l : List Nat) : Bool := decide (l ∈ words8.map bs)
theorem signB_is (l : List Nat) : decide (l ∈ signs8.map bs) = signB l := by
  have e : signs8.map bs = [61, 61] :: [[40], [41], [91], [93], [123], [125], [44], [58], [59], [61], [60], [43], [45], [42], [38], [124], [94], [33]] := by decide
  rw [e, Bool.eq_iff_iff, decide_eq_true_eq]
  unfold signB singles
  match l with
  | [] => simp
  | [c] => simp
  | [c, d] => simp
  | c :: d :: f :: r => simp
end M
set_option maxHeartbeats 2000000 in
theorem risReserved_any (s : ByteArray) (w : World) : Calls Try.prog 19 #[.string s] w fun e w' => e = .returned (.bool (M.wordB (M.bs s))) ∧ Below w.heap.size w w' := by
  have hud : ∀ b : Bool, undef ≠ Value.bool b := fun b h => by cases h
  have RE := Lib.hid fun w => reserved_any w
  have AM := Lib.hid fun w v (h : StrS w v words8) => (show Calls Try.prog 27 #[v, .string s] w fun e w' => e = .returned (.bool (M.wordB (M.bs s))) ∧ w = w' from among_any v words8 s w h)
  obtain ⟨r, er⟩ : ∃ r, r = M.wordB (M.bs s) := ⟨_, rfl⟩
  rw [← er] at AM ⊢
  clear er
  go_enter Try.func19, Try.ntmps19
  go_wp2_with fail
  (with_reducible refine (RE.out _).mono ?_)
  rintro e w1 ⟨v1, rfl, h1, hb⟩
  have HB := Lib.hid hb
  have H1 := Lib.hid h1
  clear hb h1
  go_wp2_with fail
  (with_reducible refine (AM.out _ _ H1.out).mono ?_)
  rintro e w' ⟨rfl, rfl⟩
  go_wp2_with fail
  go_ret
  exact ⟨rfl, HB.out⟩
end Go.Proofs.Ytagdbbikhegoaaa
