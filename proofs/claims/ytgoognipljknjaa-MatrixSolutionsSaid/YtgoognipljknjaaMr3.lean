/-
  Package matrix: a reduction under way; addPivot.
-/
import Derived.Test.YtgoognipljknjaaMr2
import Derived.Deep.QuietTactic
import Derived.BigQuiet
import Derived.RegionTactic
import Derived.ChangeAlike
import Derived.Deep.RegionLaw
import Derived.StillTailTactics
namespace Go.Proofs.Ytgoognipljknjaa
open Go.RowKit
set_option linter.unusedVariables false
set_option maxRecDepth 100000

namespace M
theorem add_sub_eq {p x c t : Nat} (hp : 0 < p) (hc : c ≤ p) : (x + (p - c) * t) % p = (x + p - c * t % p) % p := by
  apply eqm_lt (p := p)
  · have h1 := eqm_natmod p (x + (p - c) * t)
    have h2 := sub_mod_eqm (p := p) (x := x) (y := c * t) hp
    have e : ((x + (p - c) * t : Nat) : Int) = (x : Int) - (c * t : Nat) + p * t := by
      rw [Int.natCast_add, Int.natCast_mul, Int.natCast_mul, Int.natCast_sub hc]; grind
    rw [e] at h1
    refine h1.trans (Eqm.trans ⟨t, rfl⟩ h2.symm)
  · exact Nat.mod_lt _ hp
  · exact Nat.mod_lt _ hp
def elimS (p : Nat) (m : Mx) (l col : Nat) : Mx := fun i j => if i = l then m l j * pw p (m l col) (p - 2) % p else (m i j + p - m i col * (m l j * pw p (m l col) (p - 2) % p) % p) % p
theorem elimF_S (p : Nat) (m : Mx) (top r col : Nat) : elimF p m top r col = elimS p (swp m top r) top col := by
  funext i j; unfold elimF elimS; rw [swp_top]
theorem elimS_row {p : Nat} (m : Mx) (l col j : Nat) : elimS p m l col l j = m l j * pw p (m l col) (p - 2) % p := by unfold elimS; rw [if_pos rfl]
theorem elimS_none {p : Nat} (hp : 0 < p) {m : Mx} {l col i j : Nat} (h : m i col = 0) (hi : i ≠ l) (hs : m i j < p) : elimS p m l col i j = m i j := by
  unfold elimS; rw [if_neg hi, h, Nat.zero_mul, Nat.zero_mod, Nat.sub_zero, Nat.add_mod_right, Nat.mod_eq_of_lt hs]
theorem elimS_left {p : Nat} (hp : 0 < p) {m : Mx} {l col i j : Nat} (h : m l j = 0) (hi : i ≠ l) (hs : m i j < p) : elimS p m l col i j = m i j := by
  unfold elimS; rw [if_neg hi, h, Nat.zero_mul, Nat.zero_mod, Nat.mul_zero, Nat.zero_mod, Nat.sub_zero, Nat.add_mod_right, Nat.mod_eq_of_lt hs]
theorem elimS_some {p : Nat} (hp : 0 < p) {m : Mx} {l col i j : Nat} (hi : i ≠ l) (hs : m i col ≤ p) : (m i j + (p - m i col) * (m l j * pw p (m l col) (p - 2) % p)) % p = elimS p m l col i j := by
  rw [add_sub_eq hp hs]; unfold elimS; rw [if_neg hi]
/-- the state behind the exchange of the rows -/
def Rd.swapped (s : Rd) (p r : Nat) : Rd := ⟨swp s.m s.lead.length r, s.lead, if r = s.lead.length then s.d else p - s.d⟩
theorem swapped_same (s : Rd) (p r : Nat) (h : r = s.lead.length) : s.swapped p r = s := by
  unfold Rd.swapped; rw [if_pos h, h, swp_self]
theorem rstep_swapped {p R col : Nat} {s : Rd} (h : s.at_ R col < R) : rstep p R s col = ⟨elimS p (s.swapped p (s.at_ R col)).m s.lead.length col, s.lead ++ [col], (s.swapped p (s.at_ R col)).d * (s.swapped p (s.at_ R col)).m s.lead.length col % p⟩ := by
  rw [rstep_some h, elimF_S]
  unfold Rd.swapped
  dsimp only
  rw [swp_top]
end M

def ints (l : List Nat) : List Value := l.map fun (z : Nat) => Value.int .i64 z
theorem own_ne {w : World} {base : Nat} {e t : TypeId} {size n g : Nat} {v : Value} {xs : List Value} {cs : Array Value} (h : w.ownsRow base e size v n xs) (hg : w.heap[g]? = some (.cells cs t (0, 0))) (hne : e ≠ t) : v.ownBlock ≠ some g := by
  rcases h.2 with ⟨rfl, _⟩ | ⟨g', cap, cur, rfl, _, hh, _⟩
  · simp [Value.ownBlock]
  · intro he
    have : g' = g := by simpa [Value.ownBlock] using he
    subst this
    rw [hg] at hh
    injection hh with hh
    injection hh with _ ht
    exact hne ht.symm

theorem infoI64 : (Try.prog.info? 3).map (fun i => (i.zero, i.size, i.bytes)) = some (some (.int .i64 0), 1, 8) := by kernel_rfl
theorem ints_snoc (l : List Nat) (x : Nat) : ints (l ++ [x]) = ints l ++ [.int .i64 (x : Nat)] := by simp [ints]
/-- a reduction in block D: what addPivot finds and leaves -/
structure RedO (w : World) (base D B R C cap : Nat) (G Cp : Nat → Nat) (vp : Value) (s : M.Rd) : Prop where
  blk : w.heap[D]? = some (.cells #[.slice (some ⟨B, 0, none⟩) R cap, vp, .int .u64 (s.d : Nat)] 98 (0, 0))
  mat : MatO w base B R C G Cp s.m
  piv : w.ownsRow base 3 1 vp s.lead.length (ints s.lead)
  baseD : base ≤ D
  cap : R ≤ cap
section
variable {w w' : World} {base D B R C cap : Nat} {G Cp : Nat → Nat} {vp : Value} {s : M.Rd}
theorem RedO.neB (h : RedO w base D B R C cap G Cp vp s) : D ≠ B := by
  obtain ⟨cs, h1, _⟩ := h.mat.top
  intro e
  have := h.blk
  rw [e, h1] at this
  simp at this
theorem RedO.neG (h : RedO w base D B R C cap G Cp vp s) {i : Nat} (hi : i < R) : D ≠ G i := by
  obtain ⟨cs, h1, _⟩ := h.mat.row i hi
  intro e
  have := h.blk
  rw [e, h1] at this
  simp at this
theorem RedO.pD (h : RedO w base D B R C cap G Cp vp s) : vp.ownBlock ≠ some D := own_ne h.piv h.blk (by decide)
theorem RedO.pB (h : RedO w base D B R C cap G Cp vp s) : vp.ownBlock ≠ some B := by obtain ⟨cs, h1, _⟩ := h.mat.top; exact own_ne h.piv h1 (by decide)
theorem RedO.pG (h : RedO w base D B R C cap G Cp vp s) {i : Nat} (hi : i < R) : vp.ownBlock ≠ some (G i) := by obtain ⟨cs, h1, _⟩ := h.mat.row i hi; exact own_ne h.piv h1 (by decide)
theorem RedO.lt (h : RedO w base D B R C cap G Cp vp s) : D < w.heap.size := lt_of_block h.blk
theorem RedO.heap (h : RedO w base D B R C cap G Cp vp s) (e : w'.heap = w.heap) : RedO w' base D B R C cap G Cp vp s :=
  ⟨by rw [e]; exact h.blk, h.mat.heap e, by unfold World.ownsRow; rw [e]; exact h.piv, h.baseD, h.cap⟩
theorem RedO.alloc (h : RedO w base D B R C cap G Cp vp s) (o : Obj) : RedO (w.alloc o) base D B R C cap G Cp vp s :=
  ⟨(Below.heap_alloc w o _ h.lt).trans h.blk, h.mat.alloc o, h.piv.alloc o, h.baseD, h.cap⟩
theorem RedO.below (h : RedO w base D B R C cap G Cp vp s) {b : Nat} (hb : Below b w w') (hw : w.heap.size ≤ b) : RedO w' base D B R C cap G Cp vp s := by
  refine ⟨(hb.block D (by have := h.lt; omega)).trans h.blk, h.mat.below hb hw, ?_, h.baseD, h.cap⟩
  refine ⟨h.piv.1, ?_⟩
  rcases h.piv.2 with h2 | ⟨g, c, cur, hv, hg, hh, r⟩
  · exact .inl h2
  · exact .inr ⟨g, c, cur, hv, hg, (hb.block g (by have := lt_of_block hh; omega)).trans hh, r⟩
theorem RedO.setD (h : RedO w base D B R C cap G Cp vp s) (d : Nat) : RedO (w.setCell ⟨D, 2, none⟩ (.int .u64 (d : Nat))) base D B R C cap G Cp vp ⟨s.m, s.lead, d⟩ := by
  refine ⟨?_, h.mat.far (p := ⟨D, 2, none⟩) (Ne.symm h.neB) (fun i hi => Ne.symm (h.neG hi)) _, ownsRow_setCell_other h.piv h.pD _, h.baseD, h.cap⟩
  rw [heap_setCell_same w D 2 _ _ _ h.blk]
  rfl
theorem RedO.setP (h : RedO w base D B R C cap G Cp vp s) {v2 : Value} {l2 : List Nat} (hv : w.ownsRow base 3 1 v2 l2.length (ints l2)) : RedO (w.setCell ⟨D, 1, none⟩ v2) base D B R C cap G Cp v2 ⟨s.m, l2, s.d⟩ := by
  refine ⟨?_, h.mat.far (p := ⟨D, 1, none⟩) (Ne.symm h.neB) (fun i hi => Ne.symm (h.neG hi)) _, ownsRow_setCell_other hv (own_ne hv h.blk (by decide)) _, h.baseD, h.cap⟩
  rw [heap_setCell_same w D 1 _ _ _ h.blk]
  rfl
theorem RedO.grown (h : RedO w base D B R C cap G Cp vp s) {row : Option Nat} (hg : w.grownBy w' row) (hD : some D ≠ row) (hB : some B ≠ row) (hG : ∀ i, i < R → some (G i) ≠ row) (hp : vp.ownBlock = none ∨ vp.ownBlock ≠ row) : RedO w' base D B R C cap G Cp vp s :=
  ⟨(hg.block D h.lt hD).trans h.blk, h.mat.grown hg hB hG, h.piv.kept hg hp, h.baseD, h.cap⟩
theorem RedO.setRow (h : RedO w base D B R C cap G Cp vp s) {r : Nat} (hr : r < R) {F1 : Nat → Nat} (hg : w.grownBy w' (some (G r))) (hrow : Row w' (G r) C F1) : RedO w' base D B R C cap G Cp vp ⟨fun i => if i = r then F1 else s.m i, s.lead, s.d⟩ :=
  ⟨(hg.block D h.lt (by have := h.neG hr; simp; omega)).trans h.blk, h.mat.setRow hr hg hrow, h.piv.kept hg (.inr (h.pG hr)), h.baseD, h.cap⟩
theorem RedO.congr (h : RedO w base D B R C cap G Cp vp s) {m2 : M.Mx} (e : ∀ i, i < R → ∀ j, j < C → s.m i j = m2 i j) : RedO w base D B R C cap G Cp vp ⟨m2, s.lead, s.d⟩ :=
  ⟨h.blk, h.mat.congr e, h.piv, h.baseD, h.cap⟩
theorem RedO.push (h : RedO w base D B R C cap G Cp vp s) (hg : w.grownBy w' vp.ownBlock) {v2 : Value} {l2 : List Nat} (hv : w'.ownsRow base 3 1 v2 l2.length (ints l2)) :
    w'.frozen? ⟨D, 1, none⟩ = false ∧ RedO (w'.setCell ⟨D, 1, none⟩ v2) base D B R C cap G Cp v2 ⟨s.m, l2, s.d⟩ := by
  have hb := (hg.block D h.lt (Ne.symm h.pD)).trans h.blk
  refine ⟨frozen_of_row _ D 1 _ _ hb, ?_, (h.mat.grown hg (Ne.symm h.pB) (fun i hi => Ne.symm (h.pG hi))).far (p := ⟨D, 1, none⟩) (Ne.symm h.neB) (fun i hi => Ne.symm (h.neG hi)) _, ownsRow_setCell_other hv (own_ne hv hb (by decide)) _, h.baseD, h.cap⟩
  rw [heap_setCell_same _ D 1 _ _ _ hb]
  rfl
theorem RedO.swap (h : RedO w base D B R C cap G Cp vp s) {a b : Nat} (ha : a < R) (hb : b < R) : ∃ G' Cp',
    RedO ((w.setCell ⟨B, a, none⟩ (.slice (some ⟨G b, 0, none⟩) C (Cp b))).setCell ⟨B, b, none⟩ (.slice (some ⟨G a, 0, none⟩) C (Cp a))) base D B R C cap G' Cp' vp ⟨fun i => if i = b then s.m a else if i = a then s.m b else s.m i, s.lead, s.d⟩ :=
  ⟨_, _, (Below.heap_setCell _ _ _ _ h.neB).trans ((Below.heap_setCell _ _ _ _ h.neB).trans h.blk), h.mat.swap ha hb, ownsRow_setCell_other (ownsRow_setCell_other h.piv h.pB _) h.pB _, h.baseD, h.cap⟩
theorem RedO.c0 (h : RedO w base D B R C cap G Cp vp s) : w.cell? ⟨D, 0, none⟩ = some (.slice (some ⟨B, 0, none⟩) R cap) := by rw [cell_of_row w D 0 _ _ (0, 0) h.blk]; rfl
theorem RedO.c1 (h : RedO w base D B R C cap G Cp vp s) : w.cell? ⟨D, 1, none⟩ = some vp := by rw [cell_of_row w D 1 _ _ (0, 0) h.blk]; rfl
theorem RedO.c2 (h : RedO w base D B R C cap G Cp vp s) : w.cell? ⟨D, 2, none⟩ = some (.int .u64 (s.d : Nat)) := by rw [cell_of_row w D 2 _ _ (0, 0) h.blk]; rfl
theorem RedO.fr (h : RedO w base D B R C cap G Cp vp s) (i : Nat) : w.frozen? ⟨D, i, none⟩ = false := frozen_of_row w D i _ _ h.blk
theorem RedO.len (h : RedO w base D B R C cap G Cp vp s) : ∃ A c, vp = .slice A s.lead.length c := by
  rcases h.piv.2 with ⟨rfl, h0⟩ | ⟨g, c, cur, rfl, _⟩
  · exact ⟨none, 0, by rw [h0]⟩
  · exact ⟨_, _, rfl⟩
end

def RedEnd (w : World) (base D B R C cap : Nat) (s : M.Rd) (e : Ending) (w' : World) : Prop :=
  e = .returned (.tuple #[]) ∧ Below base w w' ∧ ∃ G Cp vp, RedO w' base D B R C cap G Cp vp s

set_option maxHeartbeats 1000000 in
theorem pivot_none (p base D B R C cap col : Nat) (G Cp : Nat → Nat) (vp : Value) (s : M.Rd) (w : World) (hp : p ≤ 65537) (hR : R ≤ 1000) (hC : C ≤ 1000) (hcol : col < C) (hb : base ≤ w.heap.size) (hlen : s.lead.length ≤ R)
    (h : RedO w base D B R C cap G Cp vp s) (hr : ¬ s.at_ R col < R) :
    Calls Try.prog 101 #[.pointer (some ⟨D, 0, none⟩), .int .u64 p, .int .i64 col] w (RedEnd w base D B R C cap s) := by
  have h1 := h.alloc (.cells #[.int .i64 (col : Nat)] 3)
  have hix := fun A cp hA => idxRows_any base B s.lead.length R C col w.heap.size cp A G Cp s.m (w.alloc (.cells #[.int .i64 (col : Nat)] 3)) hR hC hcol hA h1.mat (by simp) (s.at_first hlen col) rfl
  simp only [if_neg hr] at hix
  have HIX := Lib.hid hix
  have H1 := Lib.hid h1
  have hDl := h.lt
  have c0 := h1.c0
  have c1 := h1.c1
  have hcap := h.cap
  obtain ⟨A, cp, rfl⟩ := h.len
  obtain ⟨l, el⟩ : ∃ l, l = s.lead.length := ⟨_, rfl⟩
  rw [← el] at HIX c1 hlen
  have HB := Lib.hid ((Below.refl base w).alloc hb (.cells #[.int .i64 (col : Nat)] 3))
  clear h h1 hix hr el hb
  go_enter Try.func101, Try.ntmps101
  go_wp2_with fail
  all_goals
    refine (HIX.out _ _ ?_).mono ?_
    · intro hlt; first | rfl | (exfalso; omega)
    rintro e w' ⟨rfl, rfl⟩
    go_wp2_with fail
    go_end0
    exact ⟨rfl, HB.out, G, Cp, _, H1.out⟩
end Go.Proofs.Ytgoognipljknjaa
