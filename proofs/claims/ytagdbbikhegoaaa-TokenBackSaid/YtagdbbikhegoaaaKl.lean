/-
  Tokens: slices of tokens; the reference's Same.
-/
import Derived.Test.YtagdbbikhegoaaaKg
import Derived.Deep.RegionHeld3
namespace Go.Proofs.Ytagdbbikhegoaaa
open Go.RowKit
set_option linter.unusedVariables false
set_option maxRecDepth 100000

/-- a token of the program: kind, text, offset -/
structure T8 where
  kind : Int
  text : ByteArray
  off : Int
def T8.no : T8 := ⟨0, ByteArray.empty, 0⟩
/-- v reads, in w, as a list of tokens -/
def TokS (w : World) (v : Value) (ts : List T8) : Prop :=
  ts.length ≤ 17592186043904 ∧ ∃ A cap, v = .slice A ts.length cap ∧ ts.length ≤ cap ∧ (0 < ts.length → ∃ b off, A = some ⟨b, off, none⟩ ∧ b < w.heap.size ∧
    ∀ i, i < ts.length → w.cell? ⟨b, off + i * 3, none⟩ = some (.int .i64 (ts.getD i T8.no).kind) ∧ w.cell? ⟨b, off + i * 3 + 1, none⟩ = some (.string (ts.getD i T8.no).text) ∧ w.cell? ⟨b, off + i * 3 + 2, none⟩ = some (.int .i64 (ts.getD i T8.no).off))
theorem TokS.below {w w' : World} {v : Value} {ts : List T8} (h : TokS w v ts) (hb : Below w.heap.size w w') : TokS w' v ts := by
  obtain ⟨h1, A, cap, rfl, h2, h3⟩ := h
  refine ⟨h1, A, cap, rfl, h2, fun h0 => ?_⟩
  obtain ⟨b, off, rfl, hlt, hc⟩ := h3 h0
  exact ⟨b, off, rfl, Nat.lt_of_lt_of_le hlt hb.size, fun i hi => ⟨(hb.cell (p := ⟨b, _, none⟩) hlt).trans (hc i hi).1, (hb.cell (p := ⟨b, _, none⟩) hlt).trans (hc i hi).2.1, (hb.cell (p := ⟨b, _, none⟩) hlt).trans (hc i hi).2.2⟩⟩
set_option maxHeartbeats 4000000 in
theorem rsameT_any (va vb : Value) (A B : List T8) (w : World) (ha : TokS w va A) (hb : TokS w vb B) (hlen : A.length = B.length) (hk : ∀ i, i < A.length → (A.getD i T8.no).kind = (B.getD i T8.no).kind ∧ (A.getD i T8.no).text = (B.getD i T8.no).text ∧ (A.getD i T8.no).off = (B.getD i T8.no).off) : Calls Try.prog 10 #[va, vb, .bool true] w fun e w' => e = .returned (.bool true) ∧ Below w.heap.size w w' := by
  have hud : ∀ b : Bool, undef ≠ Value.bool b := fun b h => by cases h
  obtain ⟨hl1, Aa, ca, rfl, hca, ha⟩ := ha
  obtain ⟨-, Ab, cb, rfl, hcb, hb⟩ := hb
  rw [← hlen] at hb hcb ⊢
  obtain ⟨n, en⟩ : ∃ n, n = A.length := ⟨_, rfl⟩
  rw [← en] at ha hb hca hcb hl1 hk ⊢
  have HA := Lib.hid ha
  have HB := Lib.hid hb
  have HK := Lib.hid hk
  clear ha hb hk hlen en
  have hB0 := Below.refl w.heap.size w
  go_enter Try.func10, Try.ntmps10
  go_wp2_with fail
  go_loopw [15] (fun ti wr => ∃ i : Nat, i ≤ n ∧ ti = .int .i64 i ∧ Below w.heap.size w wr) (fun ti _ => n - (intOf ti).toNat)
  case atStart => exact ⟨0, by omega, rfl, hB0⟩
  case round =>
    obtain ⟨i, hi, rfl, hB⟩ := hrel
    have HBB := Lib.hid hB
    clear hB hB0
    by_cases hlt : i < n
    · obtain ⟨b, off, rfl, hbl, hcell⟩ := HA.out (by omega)
      obtain ⟨b2, off2, rfl, hbl2, hcell2⟩ := HB.out (by omega)
      obtain ⟨e1, e2, e3⟩ := HK.out i hlt
      obtain ⟨x0, x1, x2⟩ := hcell i hlt
      obtain ⟨y0, y1, y2⟩ := hcell2 i hlt
      rw [← e1] at y0
      rw [← e2] at y1
      rw [← e3] at y2
      have p0 := (HBB.out.cell (p := ⟨b, off + i * 3, none⟩) hbl).trans x0
      have p1 := (HBB.out.cell (p := ⟨b, off + i * 3 + 1, none⟩) hbl).trans x1
      have p2 := (HBB.out.cell (p := ⟨b, off + i * 3 + 2, none⟩) hbl).trans x2
      have q0 := (HBB.out.cell (p := ⟨b2, off2 + i * 3, none⟩) hbl2).trans y0
      have q1 := (HBB.out.cell (p := ⟨b2, off2 + i * 3 + 1, none⟩) hbl2).trans y1
      have q2 := (HBB.out.cell (p := ⟨b2, off2 + i * 3 + 2, none⟩) hbl2).trans y2
      obtain ⟨K, eK⟩ : ∃ K, K = (A.getD i T8.no).kind := ⟨_, rfl⟩
      obtain ⟨T, eT⟩ : ∃ T, T = (A.getD i T8.no).text := ⟨_, rfl⟩
      obtain ⟨O, eO⟩ : ∃ O, O = (A.getD i T8.no).off := ⟨_, rfl⟩
      rw [← eK] at p0 q0
      rw [← eT] at p1 q1
      rw [← eO] at p2 q2
      have HBD := Lib.hid HBB.out.drew
      have hs1 := Nat.lt_of_lt_of_le hbl HBB.out.size
      have hs2 := Nat.lt_of_lt_of_le hbl2 HBB.out.size
      clear hcell hcell2 e1 e2 e3 x0 x1 x2 y0 y1 y2 eK eT eO
      go_wp2_with fail
      go_region_held3 (fun w' => w'.cell? ⟨b, off + i * 3, none⟩ = some (.int .i64 K) ∧ w'.cell? ⟨b, off + i * 3 + 1, none⟩ = some (.string T) ∧ w'.cell? ⟨b, off + i * 3 + 2, none⟩ = some (.int .i64 O) ∧ w'.cell? ⟨b2, off2 + i * 3, none⟩ = some (.int .i64 K) ∧ w'.cell? ⟨b2, off2 + i * 3 + 1, none⟩ = some (.string T) ∧ w'.cell? ⟨b2, off2 + i * 3 + 2, none⟩ = some (.int .i64 O))
        (first | exact ⟨((Below.refl _ _).drew.cell (p := ⟨b, off + i * 3, none⟩) hs1).trans p0, ((Below.refl _ _).drew.cell (p := ⟨b, off + i * 3 + 1, none⟩) hs1).trans p1, ((Below.refl _ _).drew.cell (p := ⟨b, off + i * 3 + 2, none⟩) hs1).trans p2, ((Below.refl _ _).drew.cell (p := ⟨b2, off2 + i * 3, none⟩) hs2).trans q0, ((Below.refl _ _).drew.cell (p := ⟨b2, off2 + i * 3 + 1, none⟩) hs2).trans q1, ((Below.refl _ _).drew.cell (p := ⟨b2, off2 + i * 3 + 2, none⟩) hs2).trans q2⟩ | go_keep)
        (fail)
      go_wp2_with fail
      refine ⟨⟨i + 1, by omega, by go_num, HBD.out⟩, ?_⟩
      simp [intOf]; omega
    · obtain rfl : i = n := by omega
      go_wp2_with fail
      go_ret
      exact ⟨rfl, HBB.out⟩
end Go.Proofs.Ytagdbbikhegoaaa
