/-
  Package matrix: Reduce, Rank, checkSquare, Det.
-/
import Derived.Test.YtgoognipljknjaaMr8N
import Derived.Test.YtgoognipljknjaaMr10
namespace Go.Proofs.Ytgoognipljknjaa
open Go.RowKit
set_option linter.unusedVariables false
set_option maxRecDepth 100000

/-- a slice of ints that reads as the numbers l -/
def Ints (w : World) (v : Value) (l : List Nat) : Prop :=
  ∃ A cap, v = .slice A l.length cap ∧ l.length ≤ cap ∧ (0 < l.length → ∃ b, A = some ⟨b, 0, none⟩ ∧ b < w.heap.size ∧ ∀ i, i < l.length → w.cell? ⟨b, i, none⟩ = some (.int .i64 (l.getD i 0 : Nat)))
theorem Ints.below {w w' : World} {v : Value} {l : List Nat} (h : Ints w v l) (hb : Below w.heap.size w w') : Ints w' v l := by
  obtain ⟨A, cap, e, hc, h⟩ := h
  refine ⟨A, cap, e, hc, fun h0 => ?_⟩
  obtain ⟨b, e2, hlt, hcell⟩ := h h0
  exact ⟨b, e2, Nat.lt_of_lt_of_le hlt hb.size, fun i hi => (hb.cell (p := ⟨b, i, none⟩) hlt).trans (hcell i hi)⟩
theorem ints_of_owns {w : World} {base n : Nat} {v : Value} {l : List Nat} (h : w.ownsRow base 3 1 v n (ints l)) : Ints w v l := by
  have hn : l.length = n := by have := h.1; simpa [ints] using this
  rcases h.2 with ⟨rfl, h0⟩ | ⟨g, cap, cur, rfl, hg, hh, hc, _⟩
  · exact ⟨none, 0, by rw [hn, h0], by omega, fun h => absurd h (by omega)⟩
  · refine ⟨_, cap, by rw [hn], by omega, fun h0 => ⟨g, rfl, lt_of_block hh, fun i hi => ?_⟩⟩
    have := h.cells (g := g) rfl i (.int .i64 (l.getD i 0 : Nat)) (by simp [ints, List.getD_eq_getElem?_getD, hi])
    rw [Addr.add_lit, Nat.zero_add] at this
    exact this

namespace M
theorem besF_nil (m : List (List Nat)) : besF m (fun _ => []) = el m := by
  funext i j; unfold besF el; rw [List.append_nil]
/-- the reduction of m -/
def rd (p : Nat) (m : List (List Nat)) (R K : Nat) : Rd := red p R (el m) K
end M

/-- what reduces m without further columns -/
theorem reduce_plain (p R K : Nat) (v : Value) (m : List (List Nat)) (w : World) (hok : M.Ok p m R K) (hv : Mat w v m) :
    Calls Try.prog 61 #[.int .u64 p, v, .func (.func 95) #[] #[]] w (ReduceEnd w p R K K (M.el m)) := by
  have h := reduce_N p R K 0 v m (fun _ => []) w hok (by omega) (fun i hi => ⟨rfl, rfl⟩) hv (fun W i hi hb => nothing_any i W)
  rw [M.besF_nil] at h
  exact h

def ReducedOk (w : World) (p R K : Nat) (m : List (List Nat)) (e : Ending) (w' : World) : Prop :=
  Below w.heap.size w w' ∧ ∃ B cap G Cp vp, e = .returned (.tuple #[.slice (some ⟨B, 0, none⟩) R cap, vp, .int .i64 0]) ∧ R ≤ cap ∧ MatO w' w.heap.size B R K G Cp (M.rd p m R K).m ∧ Ints w' vp (M.rd p m R K).lead

set_option maxHeartbeats 1000000 in
theorem mreduce_bad (p : Nat) (v : Value) (m : List (List Nat)) (w : World) (hp : p < 18446744073709551616) (hv : Mat w v m) (h : M.chkm p m ≠ 0) :
    Calls Try.prog 63 #[.int .u64 p, v] w fun e w' => e = .returned (.tuple #[.slice none 0 0, .slice none 0 0, .int .i64 (M.chkm p m)]) ∧ Below w.heap.size w w' := by
  have HC := Lib.hid (mcheck_any p v m w hp hv)
  obtain ⟨A, cap, rfl, _⟩ := mat_view hv
  have hb : (M.chkm p m != 0) = true := by rw [bne_iff_ne]; exact h
  obtain ⟨c, ec⟩ : ∃ c, c = M.chkm p m := ⟨_, rfl⟩
  rw [← ec] at HC hb ⊢
  clear ec h hp hv
  go_enter Try.func63, Try.ntmps63
  go_wp2_with fail
  refine HC.out.mono ?_
  rintro e w1 ⟨rfl, hb1⟩
  have HB := Lib.hid hb1
  clear hb1
  go_wp2_with fail
  go_ret3
  exact ⟨rfl, HB.out⟩

set_option maxHeartbeats 1000000 in
theorem mreduce_ok (p R K : Nat) (v : Value) (m : List (List Nat)) (w : World) (hok : M.Ok p m R K) (hv : Mat w v m) :
    Calls Try.prog 63 #[.int .u64 p, v] w (ReducedOk w p R K m) := by
  obtain ⟨h3, hp⟩ := M.pos_of hok.isp
  have hc := mcheck_any p v m w (by omega) hv
  rw [hok.chk] at hc
  have HC := Lib.hid hc
  have HR := Lib.hid fun W (hW : Mat W v m) => reduce_plain p R K v m W hok hW
  have HM := Lib.hid hv
  obtain ⟨A, cap, rfl, _⟩ := mat_view hv
  have HOK := Lib.hid hok
  clear hc hv hok
  go_enter Try.func63, Try.ntmps63
  go_wp2_with fail
  refine HC.out.mono ?_
  rintro e w1 ⟨rfl, hb1⟩
  have HB1 := Lib.hid hb1
  have HR2 := Lib.hid (HR.out w1 (HM.out.below hb1))
  clear hb1
  go_wp2_with fail
  refine HR2.out.mono ?_
  rintro e w2 ⟨B, cp, G, Cp, vp, rfl, hb2, hcp, hm2, hp2⟩
  have HB2 := Lib.hid (bnext HB1.out hb2)
  have HS := Lib.hid HB1.out.size
  obtain ⟨Ap, cpp, rfl⟩ : ∃ A c, vp = .slice A (M.red p R (M.el m) K).lead.length c := by
    rcases hp2.2 with ⟨rfl, h0⟩ | ⟨g, c, cur, rfl, _⟩
    · exact ⟨none, 0, by rw [h0]⟩
    · exact ⟨_, _, rfl⟩
  have HI := Lib.hid (ints_of_owns hp2)
  have HM2 := Lib.hid hm2
  obtain ⟨L, eL⟩ : ∃ L, (M.red p R (M.el m) K).lead.length = L := ⟨_, rfl⟩
  rw [eL] at HI
  obtain ⟨d, ed⟩ : ∃ d, (M.red p R (M.el m) K).d = d := ⟨_, rfl⟩
  rw [eL, ed]
  clear hb2 hm2 hp2 eL ed
  go_wp2_with fail
  go_quiet (fail)
  go_wp2_with fail
  go_ret3
  refine ⟨?_, B, cp, G, Cp, _, rfl, hcp, ?_, ?_⟩
  · exact (HB2.out.alloc HB2.out.size _).trans ⟨rfl, rfl, rfl, Nat.le_refl _, fun _ _ => rfl⟩
  · have a := HM2.out.alloc (.cells #[.slice (some ⟨B, 0, none⟩) R cp, .slice Ap L cpp, .int .u64 (d : Nat)] 98)
    exact MatO.heap ⟨by have := a.baseB; have := HS.out; omega, a.top, a.row, fun i hi => ⟨by have := (a.baseG i hi).1; have := HS.out; omega, (a.baseG i hi).2⟩, a.inj⟩ rfl
  · have a := HI.out.below (balloc w2 (.cells #[.slice (some ⟨B, 0, none⟩) R cp, .slice Ap L cpp, .int .u64 (d : Nat)] 98))
    exact a
end Go.Proofs.Ytgoognipljknjaa
