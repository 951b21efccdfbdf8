/-
  Package share: Shares.
-/
import Derived.Test.YtgjkinmfgejjaaaS4
import Derived.Test.YtgjkinmfgejjaaaApi1
namespace Go.Proofs.Ytgjkinmfgejjaaa
open Go.RowKit
set_option linter.unusedVariables false
set_option maxRecDepth 100000

theorem shares1_ok (p k : Nat) (v : Value) (f : List Nat) (a0 a1 : Nat) (w : World) (hk : k < p) (hv : Nums w v f) (h : M.chk p f 201 = 0)
    (c0 : w.cell? ⟨a0, 0, none⟩ = some (.int .u64 p)) (c1 : w.cell? ⟨a1, 0, none⟩ = some v) :
    Calls Try.prog 60 #[.int .i64 (k : Nat), .pointer (some ⟨a0, 0, none⟩), .pointer (some ⟨a1, 0, none⟩)] w fun e w' => e = .returned (.tuple #[.int .u64 (M.pev p f k : Nat), .int .i64 0]) ∧ Below w.heap.size w w' := by
  obtain ⟨hi, _, _⟩ := M.chk_ok h
  obtain ⟨h3, hp⟩ := M.pos_of hi
  have HE := Lib.hid fun W (hW : Nums W v f) => eval_ok p k v f W hk hW h
  have HV := Lib.hid hv
  clear hv h hi
  go_enter Try.func60, Try.ntmps60
  go_wp2_with fail
  refine (HE.out _ HV.out).mono ?_
  rintro e w1 ⟨rfl, hb1⟩
  have B1 := Lib.hid hb1
  clear hb1
  go_wp2_with fail
  go_ret2
  exact ⟨rfl, B1.out⟩

theorem shares1_bad (p k : Nat) (v : Value) (f : List Nat) (a0 a1 : Nat) (w : World) (hp : p < 18446744073709551616) (hk : k < 18446744073709551616) (hv : Nums w v f) (h : M.chk p f 201 ≠ 0)
    (c0 : w.cell? ⟨a0, 0, none⟩ = some (.int .u64 p)) (c1 : w.cell? ⟨a1, 0, none⟩ = some v) :
    Calls Try.prog 60 #[.int .i64 (k : Nat), .pointer (some ⟨a0, 0, none⟩), .pointer (some ⟨a1, 0, none⟩)] w fun e w' => e = .returned (.tuple #[.int .u64 (0 : Nat), .int .i64 (M.chk p f 201)]) ∧ Below w.heap.size w w' := by
  have HE := Lib.hid fun W (hW : Nums W v f) => eval_bad p k v f W hp hW h
  have HV := Lib.hid hv
  obtain ⟨c, ec⟩ : ∃ c, c = M.chk p f 201 := ⟨_, rfl⟩
  rw [← ec] at HE ⊢
  clear hv h ec
  go_enter Try.func60, Try.ntmps60
  go_wp2_with fail
  refine (HE.out _ HV.out).mono ?_
  rintro e w1 ⟨rfl, rfl⟩
  go_wp2_with fail
  go_ret2
  exact ⟨rfl, Below.refl _ _⟩

set_option maxHeartbeats 400000 in
theorem forParties_no (p : Nat) (n t : Int) (cv : Value) (w : World) (hp : p < 18446744073709551616) (hn1 : -9223372036854775808 ≤ n) (hn2 : n ≤ 9223372036854775807) (ht1 : -9223372036854775808 ≤ t) (ht2 : t ≤ 9223372036854775807) (hs : M.okS p n t = false) :
    Calls Try.prog 59 #[suV p n t, cv] w (Fails2 w 2) := by
  have hC := fun W => setup_any p n t W hp hn1 hn2 ht1 ht2
  have e2 : M.errS p n t = 2 := by simp [M.errS, hs]
  rw [e2] at hC
  have HC := Lib.hid hC
  have HB := Lib.hid (balloc w (Obj.cells #[Value.int IntKind.u64 p, Value.int IntKind.i64 n, Value.int IntKind.i64 t] 24))
  unfold suV at HC ⊢
  clear hC hs e2
  go_enter Try.func59, Try.ntmps59
  go_wp2_with fail
  refine (HC.out _).mono ?_
  rintro e w1 ⟨rfl, hb1⟩
  have B1 := Lib.hid (bnext HB.out hb1)
  clear hb1
  go_wp2_with fail
  go_ret2
  exact ⟨rfl, B1.out⟩

namespace M
/-- the values of f at the points of N parties -/
def shs (p N : Nat) (f : List Nat) : List Nat := tabM N fun i => pev p f (i + 1)
end M

set_option maxHeartbeats 400000 in
theorem shares_no (p : Nat) (n t : Int) (v : Value) (f : List Nat) (w : World) (hv : Nums w v f) (hp : p < 18446744073709551616) (hn1 : -9223372036854775808 ≤ n) (hn2 : n ≤ 9223372036854775807) (ht1 : -9223372036854775808 ≤ t) (ht2 : t ≤ 9223372036854775807) (hs : M.okS p n t = false) :
    Calls Try.prog 24 #[suV p n t, v] w (Fails2 w 2) := by
  obtain ⟨A, cap, rfl⟩ := nums_slice' hv
  have HC := Lib.hid fun cv W => forParties_no p n t cv W hp hn1 hn2 ht1 ht2 hs
  have HB := Lib.hid fun o1 o2 => bnext (balloc w o1) (balloc (w.alloc o1) o2)
  unfold suV at HC ⊢
  clear hs hv
  go_enter Try.func24, Try.ntmps24
  go_wp2_with fail
  refine (HC.out _ _).mono ?_
  rintro e w1 ⟨rfl, hb1⟩
  have B1 := Lib.hid (bnext (HB.out _ _) hb1)
  clear hb1
  go_wp2_with fail
  go_ret2
  exact ⟨rfl, B1.out⟩

/-- the two boxes of Shares -/
def ShBox (p : Nat) (v : Value) (f : List Nat) (a : Nat) (W : World) : Prop :=
  W.cell? ⟨a, 0, none⟩ = some (.int .u64 p) ∧ W.cell? ⟨a + 1, 0, none⟩ = some v ∧ Nums W v f ∧ a + 1 < W.heap.size
theorem ShBox.at {p : Nat} {v : Value} {f : List Nat} {a B : Nat} {W W' w0 : World} (h : ShBox p v f a W) (hb : Below B W W') (ha : a + 1 < B) (h0 : Nums w0 v f) (h1 : Below w0.heap.size w0 W') : ShBox p v f a W' :=
  ⟨(hb.cell (p := ⟨a, 0, none⟩) (show a < B by omega)).trans h.1, (hb.cell (p := ⟨a + 1, 0, none⟩) ha).trans h.2.1, h0.below h1, by have := hb.size; have := h.2.2.2; omega⟩

set_option maxHeartbeats 1000000 in
theorem shares_run (p N : Nat) (t : Int) (v : Value) (f : List Nat) (w : World) (hok : M.okS p (N : Int) t = true) (hv : Nums w v f) (E : Nat → Int)
    (hop : ∀ W (k : Nat), k < N → ShBox p v f w.heap.size W → Calls Try.prog 60 #[.int .i64 ((k : Int) + 1), .pointer (some ⟨w.heap.size, 0, none⟩), .pointer (some ⟨w.heap.size + 1, 0, none⟩)] W fun e W' => e = .returned (.tuple #[.int .u64 (if E k = 0 then M.pev p f (k + 1) else 0 : Nat), .int .i64 (E k)]) ∧ Below W.heap.size W W') :
    Calls Try.prog 24 #[suV p (N : Int) t, v] w fun e w' => Parties p N (fun k => if E k = 0 then M.pev p f (k + 1) else 0) E w.heap.size w e w' := by
  obtain ⟨hi, hn1, hn2, ht1, ht2, hnp⟩ := M.okS_iff.1 hok
  obtain ⟨h3, hp⟩ := M.pos_of hi
  obtain ⟨A, cap, rfl⟩ := nums_slice' hv
  have hW := bnext (balloc w (Obj.cells #[Value.int IntKind.u64 p, Value.int IntKind.i64 N, Value.int IntKind.i64 t] 24)) (balloc (w.alloc (Obj.cells #[Value.int IntKind.u64 p, Value.int IntKind.i64 N, Value.int IntKind.i64 t] 24)) (Obj.cells #[Value.slice A f.length cap] 31))
  have hbox : ShBox p (Value.slice A f.length cap) f w.heap.size ((w.alloc (Obj.cells #[Value.int IntKind.u64 p, Value.int IntKind.i64 N, Value.int IntKind.i64 t] 24)).alloc (Obj.cells #[Value.slice A f.length cap] 31)) := by
    refine ⟨by simp, by simp, hv.below hW, by simp⟩
  have hc := forParties_shares p N t ⟨w.heap.size, 0, none⟩ ⟨w.heap.size + 1, 0, none⟩ (fun k => if E k = 0 then M.pev p f (k + 1) else 0) E
    (fun W => ShBox p (Value.slice A f.length cap) f w.heap.size W ∧ Below w.heap.size w W) w.heap.size w.heap.size ((w.alloc (Obj.cells #[Value.int IntKind.u64 p, Value.int IntKind.i64 N, Value.int IntKind.i64 t] 24)).alloc (Obj.cells #[Value.slice A f.length cap] 31)) hok (by simp; omega) (by simp; omega)
    ⟨hbox, hW⟩ (fun W W' h hb => ?_) (fun k hk => ?_) (fun W k hk hJ hs => ?_)
  · have HC := Lib.hid hc
    have HW := Lib.hid hW
    unfold suV at HC ⊢
    clear hc hop hbox hW hok hi
    go_enter Try.func24, Try.ntmps24
    go_wp2_with fail
    refine HC.out.mono ?_
    rintro e w1 (⟨v1, rfl, hN, hE, hb⟩ | ⟨k, hk, hE, hj, rfl, hb⟩)
    · have N1 := Lib.hid hN
      have E1 := Lib.hid hE
      have B1 := Lib.hid (HW.out.trans hb)
      clear hN hE hb
      go_wp2_with fail
      go_ret2
      exact .inl ⟨_, rfl, N1.out, E1.out, B1.out⟩
    · have E1 := Lib.hid hE
      have J1 := Lib.hid hj
      have B1 := Lib.hid (HW.out.trans hb)
      obtain ⟨c, ec⟩ : ∃ c, c = E k := ⟨_, rfl⟩
      rw [← ec]
      have EC := Lib.hid ec
      clear hE hj hb ec
      go_wp2_with fail
      go_ret2
      exact .inr ⟨k, hk, E1.out, J1.out, by rw [← EC.out]; rfl, B1.out⟩
  · have hb' := h.2.trans (hb.mono (by simp; omega))
    exact ⟨h.1.at hb (by simp) hv hb', hb'⟩
  · show (if E k = 0 then M.pev p f (k + 1) else 0) < _
    split
    · have := M.pev_lt (p := p) f (k + 1) (by omega); omega
    · omega
  · refine (hop W k hk hJ.1).mono ?_
    rintro e W' ⟨rfl, hb⟩
    have hsz : w.heap.size + 1 < W.heap.size := hJ.1.2.2.2
    have hb' := hJ.2.trans (hb.mono (show w.heap.size ≤ _ by omega))
    exact ⟨rfl, ⟨hJ.1.at hb hsz hv hb', hb'⟩, hb.mono (by omega), Keeps.of_below hb _⟩

theorem shares_ok (p N : Nat) (t : Int) (v : Value) (f : List Nat) (w : World) (hok : M.okS p (N : Int) t = true) (hv : Nums w v f) (h : M.chk p f 201 = 0) :
    Calls Try.prog 24 #[suV p (N : Int) t, v] w (Gives2 w (M.shs p N f)) := by
  obtain ⟨hi, hn1, hn2, ht1, ht2, hnp⟩ := M.okS_iff.1 hok
  refine (shares_run p N t v f w hok hv (fun _ => 0) (fun W k hk hb => ?_)).mono ?_
  · have := shares1_ok p (k + 1) v f w.heap.size (w.heap.size + 1) W (by omega) hb.2.2.1 h hb.1 hb.2.1
    rw [show ((k + 1 : Nat) : Int) = (k : Int) + 1 by omega] at this
    exact this
  · rintro e w' (⟨v', rfl, hN, _, hb⟩ | ⟨k, _, hE, _⟩)
    · exact ⟨v', rfl, hN, hb⟩
    · exact absurd rfl hE
theorem shares_bad (p N : Nat) (t : Int) (v : Value) (f : List Nat) (w : World) (hok : M.okS p (N : Int) t = true) (hv : Nums w v f) (h : M.chk p f 201 ≠ 0) :
    Calls Try.prog 24 #[suV p (N : Int) t, v] w (Fails2 w (M.chk p f 201)) := by
  obtain ⟨hi, hn1, hn2, ht1, ht2, hnp⟩ := M.okS_iff.1 hok
  obtain ⟨h3, hp⟩ := M.pos_of hi
  refine (shares_run p N t v f w hok hv (fun _ => M.chk p f 201) (fun W k hk hb => ?_)).mono ?_
  · have := shares1_bad p (k + 1) v f w.heap.size (w.heap.size + 1) W (by omega) (by omega) hb.2.2.1 h hb.1 hb.2.1
    rw [show ((k + 1 : Nat) : Int) = (k : Int) + 1 by omega] at this
    rw [if_neg h]
    exact this
  · rintro e w' (⟨v', rfl, hN, hE, hb⟩ | ⟨k, _, hE, _, rfl, hb⟩)
    · exact absurd (hE 0 (by omega)) h
    · exact ⟨rfl, hb⟩
end Go.Proofs.Ytgjkinmfgejjaaa
