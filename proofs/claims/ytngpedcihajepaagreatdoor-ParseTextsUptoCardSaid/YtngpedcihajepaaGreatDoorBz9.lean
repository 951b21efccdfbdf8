/-
 Merged out of the texts Pl9 Po9 Pp9 Pt9 Pk9 Px9 Pz9.
-/
import Derived.Maps.Own
import Derived.Maps.OwnOps
import Derived.Maps.Views
import Derived.Deep.AppendLies
import Derived.OwnWalk
import Derived.WalkKit
import Derived.ProofKit
import Derived.ChangeMaps5
import Derived.Deep.RegionHeld3
import Derived.Test.YtngpedcihajepaaGreatDoorProg
import Derived.Test.YtngpedcihajepaaGreatDoorShelf
import Derived.Below
import Derived.WalkSpells
import Derived.WalkLawsBesides
import Derived.Lib.Hide
import Derived.Deep.QuietTactic
import Derived.BigQuiet
import Derived.WalkMore
import Derived.Deep.LoopGhost
import Derived.Defers
import Derived.Recover
import Derived.Test.YtngpedcihajepaaGreatDoorBz1
import Derived.Test.YtngpedcihajepaaGreatDoorBz2
import Derived.Test.YtngpedcihajepaaGreatDoorBz3
import Derived.Test.YtngpedcihajepaaGreatDoorBz7
import Derived.Test.YtngpedcihajepaaGreatDoorSq9
set_option linter.unusedVariables false
set_option linter.unusedSimpArgs false
set_option maxRecDepth 100000
set_option maxHeartbeats 40000000
namespace Go.Proofs.YtngpedcihajepaaGreatDoor
open Go.RowKit
variable {hi R N : Nat}
theorem kind_any : PC hi R N vTree 162 M.pTyp := by
 intro w ts h hne
 have h := h
 have hud := hud9
 have HR := Lib.hid (show R < hi /\ hi <= w.heap.size /\ ts.length <= 20000 from ⟨h.1, h.2.1, by obtain ⟨_, _, _, _, _, _, _, _, _, _, _, h9, _⟩ := h; exact h9⟩)
 obtain ⟨X, eX⟩ : ∃ X, X = M.pTyp ts := ⟨_, rfl⟩
 rw [<- eX] at hne ⊢
 unfold M.pTyp at eX
 have EX := Lib.hid eX
 have HX := Lib.hid hne
 clear eX hne
 have P_0 := Lib.hid h
 have B_0 := Lib.hid (But.refl R w)
 clear h
 go_enter Tryz.func162, Tryz.ntmps162
 go_wp2_with fail
 obtain ⟨w0, ew0⟩ : ∃ w0, w0 = w.alloc (.cells #[.int .i64 0, .string ⟨#[]⟩, .int .u64 0, .slice none 0 0] 25) := ⟨_, rfl⟩
 rw [<- ew0]
 have RES_0 := Lib.hid (show Box9 w0 w.heap.size V9.no by rw [ew0]; exact Box9.start w V9.no)
 have SLE_0 := Lib.hid (show w.heap.size + 1 <= w0.heap.size by rw [ew0]; simp)
 have P_00 := Lib.hid (show PS hi R N w0 ts by rw [ew0]; exact P_0.out.alloc _)
 have B_00 := Lib.hid (show But R w w0 by rw [ew0]; exact B_0.out.alloc _)
 clear ew0 P_0 B_0
 have C1 := Lib.hid (accept_word P_00.out ⟨#[110, 117, 109]⟩ (s := [110, 117, 109]) rfl ⟨by decide, by decide⟩)
 (with_reducible refine (C1.out).mono ?_)
 rintro e w1 ⟨he, hp, hb⟩
 have RES_1 := Lib.hid (RES_0.out.but hb (by have := HR.out; omega))
 clear RES_0
 have SLE_1 := Lib.hid (Nat.le_trans SLE_0.out hb.size)
 clear SLE_0
 have B_1 := Lib.hid (B_00.out.trans hb)
 clear hb B_00
 by_cases hc : M.isS [110, 117, 109] ts = true
 ·rw [hc] at he
  rw [if_pos hc] at hp
  subst he
  have ex := EX.out
  rw [if_pos hc] at ex
  clear EX
  have EX := Lib.hid ex
  have P_1 := Lib.hid hp
  have HC1 := Lib.hid hc
  clear ex hp hc P_00
  have ex := EX.out
  unfold M.pArr at ex
  clear EX
  have EX := Lib.hid ex
  clear ex
  go_wp2_with fail
  have C2 := Lib.hid (accept_word P_1.out ⟨#[91]⟩ (s := [91]) rfl ⟨by decide, by decide⟩)
  (with_reducible refine (C2.out).mono ?_)
  rintro e w2 ⟨he, hp, hb⟩
  have RES_2 := Lib.hid (RES_1.out.but hb (by have := HR.out; omega))
  clear RES_1
  have SLE_2 := Lib.hid (Nat.le_trans SLE_1.out hb.size)
  clear SLE_1
  have B_2 := Lib.hid (B_1.out.trans hb)
  clear hb B_1
  by_cases hc : M.isS [91] ts.tail = true
  ·rw [hc] at he
   rw [if_pos hc] at hp
   subst he
   have ex := EX.out
   rw [if_pos hc] at ex
   clear EX
   have EX := Lib.hid ex
   have P_2 := Lib.hid hp
   have HC2 := Lib.hid hc
   clear ex hp hc P_1
   go_wp2_with fail
   have C3 := Lib.hid (number_any w2 (ts.tail.tail) P_2.out (fun h => HX.out (EX.out.trans (by rw [h]; rfl))))
   (with_reducible refine (C3.out).mono ?_)
   intro e w3 hE
   rcases M.Res.em (M.pNumber (ts.tail.tail)) with hk | ⟨r3, hk⟩ | ⟨a3, r3, hk⟩
   ·exact absurd (EX.out.trans (by rw [hk]; rfl)) HX.out
   ·rw [hk] at hE
    obtain ⟨he, hb⟩ := hE
    unfold pv at he
    subst he
    have HB := Lib.hid (B_2.out.trans hb)
    have ex := EX.out
    rw [hk] at ex
    try rw [M.Res.bind_bad] at ex
    have EX2 := Lib.hid ex
    clear ex hk hb
    go_wp2_with fail
    rw [EX2.out]
    exact ⟨rfl, rfl, HB.out⟩
   rw [hk] at hE
   obtain ⟨⟨he, hn⟩, hp, hb⟩ := hE
   subst he
   have HN3 := Lib.hid hn
   clear hn
   have RES_3 := Lib.hid (RES_2.out.but hb (by have := HR.out; omega))
   clear RES_2
   have SLE_3 := Lib.hid (Nat.le_trans SLE_2.out hb.size)
   clear SLE_2
   have P_3 := Lib.hid hp
   have B_3 := Lib.hid (B_2.out.trans hb)
   clear hp hb P_2 B_2
   have ex := EX.out
   rw [hk] at ex
   try rw [M.Res.bind_ok] at ex
   clear EX
   have EX := Lib.hid ex
   clear ex hk
   go_wp2_with fail
   have C4 := Lib.hid (expect_any P_3.out ⟨#[93]⟩ (s := [93]) rfl ⟨by decide, by decide⟩)
   (with_reducible refine (C4.out).mono ?_)
   intro e w4 hE
   rcases M.Res.em (M.take [93] r3) with hk | ⟨r4, hk⟩ | ⟨a4, r4, hk⟩
   ·exact absurd (EX.out.trans (by rw [hk]; rfl)) HX.out
   ·rw [hk] at hE
    obtain ⟨he, hb⟩ := hE
    unfold pv at he
    subst he
    have HB := Lib.hid (B_3.out.trans hb)
    have ex := EX.out
    rw [hk] at ex
    try rw [M.Res.bind_bad] at ex
    have EX2 := Lib.hid ex
    clear ex hk hb
    go_wp2_with fail
    rw [EX2.out]
    exact ⟨rfl, rfl, HB.out⟩
   rw [hk] at hE
   obtain ⟨he, hp, hb⟩ := hE
   unfold vUnit at he
   subst he
   have RES_4 := Lib.hid (RES_3.out.but hb (by have := HR.out; omega))
   clear RES_3
   have SLE_4 := Lib.hid (Nat.le_trans SLE_3.out hb.size)
   clear SLE_3
   have P_4 := Lib.hid hp
   have B_4 := Lib.hid (B_3.out.trans hb)
   clear hp hb P_3 B_3
   have ex := EX.out
   rw [hk] at ex
   try rw [M.Res.bind_ok] at ex
   clear EX
   have EX := Lib.hid ex
   clear ex hk
   obtain ⟨q0, q1, q2, q3⟩ := RES_4.out.c
   obtain ⟨z0, z1, z2, z3⟩ := RES_4.out.fz
   have lr0 : w.heap.size < w4.heap.size := RES_4.out.lt
   have lr1 : w.heap.size < w4.heap.size + 1 := by have := RES_4.out.lt; omega
   go_wp2_with fail
   refine bodyPost_ret (v := .agg #[.int .i64 11, .string ⟨#[]⟩, .int .u64 1, .slice (some ⟨w4.heap.size, 0, none⟩) 2 2]) (by simp [results, Tryz.results162, go_sem, q0, q1, q2, q3, lr0]) rfl ?_
   rw [EX.out]
   exact tree_lit _ _ _ (g := none) (k := 11) (T := ⟨#[]⟩) (n := 1) (l := [⟨14, ⟨#[]⟩, 0, none, 0, 0⟩, ⟨14, ⟨#[]⟩, a3, none, 0, 0⟩]) [] #[.int .i64 14, .string ⟨#[]⟩, .int .u64 (0 : Nat), .slice none 0 0, .int .i64 14, .string ⟨#[]⟩, .int .u64 (a3 : Nat), .slice none 0 0] HR.out.2.1 SLE_4.out B_4.out P_4.out (.cons ((NodeN.make (k := 14) (T := ⟨#[]⟩) (n := 0) (KidsN.nil _ _ _) rfl ⟨by omega, by omega, by decide⟩)) (.cons ((NodeN.make (k := 14) (T := ⟨#[]⟩) (n := a3) (KidsN.nil _ _ _) rfl ⟨by omega, HN3.out, by decide⟩)) .nil)) (by simp) rfl rfl ⟨by omega, by omega, by decide⟩ (by simp) (by simp) (by simp)
  ·rw [if_neg hc] at hp
   rw [show M.isS [91] ts.tail = false by simpa using hc] at he
   subst he
   have ex := EX.out
   rw [if_neg hc] at ex
   clear EX
   have EX := Lib.hid ex
   have P_2 := Lib.hid hp
   have HC2 := Lib.hid hc
   clear ex hp hc P_1
   obtain ⟨q0, q1, q2, q3⟩ := RES_2.out.c
   obtain ⟨z0, z1, z2, z3⟩ := RES_2.out.fz
   have lr0 : w.heap.size < w2.heap.size := RES_2.out.lt
   have lr1 : w.heap.size < w2.heap.size + 1 := by have := RES_2.out.lt; omega
   go_wp2_with fail
   refine bodyPost_ret (v := .agg #[.int .i64 11, .string ⟨#[]⟩, .int .u64 1, .slice (some ⟨w2.heap.size, 0, none⟩) 2 2]) (by simp [results, Tryz.results162, go_sem, q0, q1, q2, q3, lr0]) rfl ?_
   rw [EX.out]
   exact tree_lit _ _ _ (g := none) (k := 11) (T := ⟨#[]⟩) (n := 1) (l := [⟨14, ⟨#[]⟩, 0, none, 0, 0⟩, ⟨14, ⟨#[]⟩, 0, none, 0, 0⟩]) [] #[.int .i64 14, .string ⟨#[]⟩, .int .u64 (0 : Nat), .slice none 0 0, .int .i64 14, .string ⟨#[]⟩, .int .u64 (0 : Nat), .slice none 0 0] HR.out.2.1 SLE_2.out B_2.out P_2.out (.cons ((NodeN.make (k := 14) (T := ⟨#[]⟩) (n := 0) (KidsN.nil _ _ _) rfl ⟨by omega, by omega, by decide⟩)) (.cons ((NodeN.make (k := 14) (T := ⟨#[]⟩) (n := 0) (KidsN.nil _ _ _) rfl ⟨by omega, by omega, by decide⟩)) .nil)) (by simp) rfl rfl ⟨by omega, by omega, by decide⟩ (by simp) (by simp) (by simp)
 ·rw [if_neg hc] at hp
  rw [show M.isS [110, 117, 109] ts = false by simpa using hc] at he
  subst he
  have ex := EX.out
  rw [if_neg hc] at ex
  clear EX
  have EX := Lib.hid ex
  have P_1 := Lib.hid hp
  have HC1 := Lib.hid hc
  clear ex hp hc P_00
  go_wp2_with fail
  have C2 := Lib.hid (accept_word P_1.out ⟨#[98, 105, 116]⟩ (s := [98, 105, 116]) rfl ⟨by decide, by decide⟩)
  (with_reducible refine (C2.out).mono ?_)
  rintro e w2 ⟨he, hp, hb⟩
  have RES_2 := Lib.hid (RES_1.out.but hb (by have := HR.out; omega))
  clear RES_1
  have SLE_2 := Lib.hid (Nat.le_trans SLE_1.out hb.size)
  clear SLE_1
  have B_2 := Lib.hid (B_1.out.trans hb)
  clear hb B_1
  by_cases hc : M.isS [98, 105, 116] ts = true
  ·rw [hc] at he
   rw [if_pos hc] at hp
   subst he
   have ex := EX.out
   rw [if_pos hc] at ex
   clear EX
   have EX := Lib.hid ex
   have P_2 := Lib.hid hp
   have HC2 := Lib.hid hc
   clear ex hp hc P_1
   have ex := EX.out
   unfold M.pArr at ex
   clear EX
   have EX := Lib.hid ex
   clear ex
   go_wp2_with fail
   have C3 := Lib.hid (accept_word P_2.out ⟨#[91]⟩ (s := [91]) rfl ⟨by decide, by decide⟩)
   (with_reducible refine (C3.out).mono ?_)
   rintro e w3 ⟨he, hp, hb⟩
   have RES_3 := Lib.hid (RES_2.out.but hb (by have := HR.out; omega))
   clear RES_2
   have SLE_3 := Lib.hid (Nat.le_trans SLE_2.out hb.size)
   clear SLE_2
   have B_3 := Lib.hid (B_2.out.trans hb)
   clear hb B_2
   by_cases hc : M.isS [91] ts.tail = true
   ·rw [hc] at he
    rw [if_pos hc] at hp
    subst he
    have ex := EX.out
    rw [if_pos hc] at ex
    clear EX
    have EX := Lib.hid ex
    have P_3 := Lib.hid hp
    have HC3 := Lib.hid hc
    clear ex hp hc P_2
    go_wp2_with fail
    have C4 := Lib.hid (number_any w3 (ts.tail.tail) P_3.out (fun h => HX.out (EX.out.trans (by rw [h]; rfl))))
    (with_reducible refine (C4.out).mono ?_)
    intro e w4 hE
    rcases M.Res.em (M.pNumber (ts.tail.tail)) with hk | ⟨r4, hk⟩ | ⟨a4, r4, hk⟩
    ·exact absurd (EX.out.trans (by rw [hk]; rfl)) HX.out
    ·rw [hk] at hE
     obtain ⟨he, hb⟩ := hE
     unfold pv at he
     subst he
     have HB := Lib.hid (B_3.out.trans hb)
     have ex := EX.out
     rw [hk] at ex
     try rw [M.Res.bind_bad] at ex
     have EX2 := Lib.hid ex
     clear ex hk hb
     go_wp2_with fail
     rw [EX2.out]
     exact ⟨rfl, rfl, HB.out⟩
    rw [hk] at hE
    obtain ⟨⟨he, hn⟩, hp, hb⟩ := hE
    subst he
    have HN4 := Lib.hid hn
    clear hn
    have RES_4 := Lib.hid (RES_3.out.but hb (by have := HR.out; omega))
    clear RES_3
    have SLE_4 := Lib.hid (Nat.le_trans SLE_3.out hb.size)
    clear SLE_3
    have P_4 := Lib.hid hp
    have B_4 := Lib.hid (B_3.out.trans hb)
    clear hp hb P_3 B_3
    have ex := EX.out
    rw [hk] at ex
    try rw [M.Res.bind_ok] at ex
    clear EX
    have EX := Lib.hid ex
    clear ex hk
    go_wp2_with fail
    have C5 := Lib.hid (expect_any P_4.out ⟨#[93]⟩ (s := [93]) rfl ⟨by decide, by decide⟩)
    (with_reducible refine (C5.out).mono ?_)
    intro e w5 hE
    rcases M.Res.em (M.take [93] r4) with hk | ⟨r5, hk⟩ | ⟨a5, r5, hk⟩
    ·exact absurd (EX.out.trans (by rw [hk]; rfl)) HX.out
    ·rw [hk] at hE
     obtain ⟨he, hb⟩ := hE
     unfold pv at he
     subst he
     have HB := Lib.hid (B_4.out.trans hb)
     have ex := EX.out
     rw [hk] at ex
     try rw [M.Res.bind_bad] at ex
     have EX2 := Lib.hid ex
     clear ex hk hb
     go_wp2_with fail
     rw [EX2.out]
     exact ⟨rfl, rfl, HB.out⟩
    rw [hk] at hE
    obtain ⟨he, hp, hb⟩ := hE
    unfold vUnit at he
    subst he
    have RES_5 := Lib.hid (RES_4.out.but hb (by have := HR.out; omega))
    clear RES_4
    have SLE_5 := Lib.hid (Nat.le_trans SLE_4.out hb.size)
    clear SLE_4
    have P_5 := Lib.hid hp
    have B_5 := Lib.hid (B_4.out.trans hb)
    clear hp hb P_4 B_4
    have ex := EX.out
    rw [hk] at ex
    try rw [M.Res.bind_ok] at ex
    clear EX
    have EX := Lib.hid ex
    clear ex hk
    obtain ⟨q0, q1, q2, q3⟩ := RES_5.out.c
    obtain ⟨z0, z1, z2, z3⟩ := RES_5.out.fz
    have lr0 : w.heap.size < w5.heap.size := RES_5.out.lt
    have lr1 : w.heap.size < w5.heap.size + 1 := by have := RES_5.out.lt; omega
    go_wp2_with fail
    refine bodyPost_ret (v := .agg #[.int .i64 11, .string ⟨#[]⟩, .int .u64 2, .slice (some ⟨w5.heap.size, 0, none⟩) 2 2]) (by simp [results, Tryz.results162, go_sem, q0, q1, q2, q3, lr0]) rfl ?_
    rw [EX.out]
    exact tree_lit _ _ _ (g := none) (k := 11) (T := ⟨#[]⟩) (n := 2) (l := [⟨14, ⟨#[]⟩, 0, none, 0, 0⟩, ⟨14, ⟨#[]⟩, a4, none, 0, 0⟩]) [] #[.int .i64 14, .string ⟨#[]⟩, .int .u64 (0 : Nat), .slice none 0 0, .int .i64 14, .string ⟨#[]⟩, .int .u64 (a4 : Nat), .slice none 0 0] HR.out.2.1 SLE_5.out B_5.out P_5.out (.cons ((NodeN.make (k := 14) (T := ⟨#[]⟩) (n := 0) (KidsN.nil _ _ _) rfl ⟨by omega, by omega, by decide⟩)) (.cons ((NodeN.make (k := 14) (T := ⟨#[]⟩) (n := a4) (KidsN.nil _ _ _) rfl ⟨by omega, HN4.out, by decide⟩)) .nil)) (by simp) rfl rfl ⟨by omega, by omega, by decide⟩ (by simp) (by simp) (by simp)
   ·rw [if_neg hc] at hp
    rw [show M.isS [91] ts.tail = false by simpa using hc] at he
    subst he
    have ex := EX.out
    rw [if_neg hc] at ex
    clear EX
    have EX := Lib.hid ex
    have P_3 := Lib.hid hp
    have HC3 := Lib.hid hc
    clear ex hp hc P_2
    obtain ⟨q0, q1, q2, q3⟩ := RES_3.out.c
    obtain ⟨z0, z1, z2, z3⟩ := RES_3.out.fz
    have lr0 : w.heap.size < w3.heap.size := RES_3.out.lt
    have lr1 : w.heap.size < w3.heap.size + 1 := by have := RES_3.out.lt; omega
    go_wp2_with fail
    refine bodyPost_ret (v := .agg #[.int .i64 11, .string ⟨#[]⟩, .int .u64 2, .slice (some ⟨w3.heap.size, 0, none⟩) 2 2]) (by simp [results, Tryz.results162, go_sem, q0, q1, q2, q3, lr0]) rfl ?_
    rw [EX.out]
    exact tree_lit _ _ _ (g := none) (k := 11) (T := ⟨#[]⟩) (n := 2) (l := [⟨14, ⟨#[]⟩, 0, none, 0, 0⟩, ⟨14, ⟨#[]⟩, 0, none, 0, 0⟩]) [] #[.int .i64 14, .string ⟨#[]⟩, .int .u64 (0 : Nat), .slice none 0 0, .int .i64 14, .string ⟨#[]⟩, .int .u64 (0 : Nat), .slice none 0 0] HR.out.2.1 SLE_3.out B_3.out P_3.out (.cons ((NodeN.make (k := 14) (T := ⟨#[]⟩) (n := 0) (KidsN.nil _ _ _) rfl ⟨by omega, by omega, by decide⟩)) (.cons ((NodeN.make (k := 14) (T := ⟨#[]⟩) (n := 0) (KidsN.nil _ _ _) rfl ⟨by omega, by omega, by decide⟩)) .nil)) (by simp) rfl rfl ⟨by omega, by omega, by decide⟩ (by simp) (by simp) (by simp)
  ·rw [if_neg hc] at hp
   rw [show M.isS [98, 105, 116] ts = false by simpa using hc] at he
   subst he
   have ex := EX.out
   rw [if_neg hc] at ex
   clear EX
   have EX := Lib.hid ex
   have P_2 := Lib.hid hp
   have HC2 := Lib.hid hc
   clear ex hp hc P_1
   go_wp2_with fail
   have C3 := Lib.hid (expect_any P_2.out ⟨#[119, 111, 114, 100]⟩ (s := [119, 111, 114, 100]) rfl ⟨by decide, by decide⟩)
   (with_reducible refine (C3.out).mono ?_)
   intro e w3 hE
   rcases M.Res.em (M.take [119, 111, 114, 100] ts) with hk | ⟨r3, hk⟩ | ⟨a3, r3, hk⟩
   ·exact absurd (EX.out.trans (by rw [hk]; rfl)) HX.out
   ·rw [hk] at hE
    obtain ⟨he, hb⟩ := hE
    unfold pv at he
    subst he
    have HB := Lib.hid (B_2.out.trans hb)
    have ex := EX.out
    rw [hk] at ex
    try rw [M.Res.bind_bad] at ex
    have EX2 := Lib.hid ex
    clear ex hk hb
    go_wp2_with fail
    rw [EX2.out]
    exact ⟨rfl, rfl, HB.out⟩
   rw [hk] at hE
   obtain ⟨he, hp, hb⟩ := hE
   unfold vUnit at he
   subst he
   have RES_3 := Lib.hid (RES_2.out.but hb (by have := HR.out; omega))
   clear RES_2
   have SLE_3 := Lib.hid (Nat.le_trans SLE_2.out hb.size)
   clear SLE_2
   have P_3 := Lib.hid hp
   have B_3 := Lib.hid (B_2.out.trans hb)
   clear hp hb P_2 B_2
   have ex := EX.out
   rw [hk] at ex
   try rw [M.Res.bind_ok] at ex
   clear EX
   have EX := Lib.hid ex
   clear ex hk
   go_wp2_with fail
   have C4 := Lib.hid (number_any w3 r3 P_3.out (fun h => HX.out (EX.out.trans (by rw [h]; rfl))))
   (with_reducible refine (C4.out).mono ?_)
   intro e w4 hE
   rcases M.Res.em (M.pNumber r3) with hk | ⟨r4, hk⟩ | ⟨a4, r4, hk⟩
   ·exact absurd (EX.out.trans (by rw [hk]; rfl)) HX.out
   ·rw [hk] at hE
    obtain ⟨he, hb⟩ := hE
    unfold pv at he
    subst he
    have HB := Lib.hid (B_3.out.trans hb)
    have ex := EX.out
    rw [hk] at ex
    try rw [M.Res.bind_bad] at ex
    have EX2 := Lib.hid ex
    clear ex hk hb
    go_wp2_with fail
    rw [EX2.out]
    exact ⟨rfl, rfl, HB.out⟩
   rw [hk] at hE
   obtain ⟨⟨he, hn⟩, hp, hb⟩ := hE
   subst he
   have HN4 := Lib.hid hn
   clear hn
   have RES_4 := Lib.hid (RES_3.out.but hb (by have := HR.out; omega))
   clear RES_3
   have SLE_4 := Lib.hid (Nat.le_trans SLE_3.out hb.size)
   clear SLE_3
   have P_4 := Lib.hid hp
   have B_4 := Lib.hid (B_3.out.trans hb)
   clear hp hb P_3 B_3
   have ex := EX.out
   rw [hk] at ex
   try rw [M.Res.bind_ok] at ex
   clear EX
   have EX := Lib.hid ex
   clear ex hk
   have ex := EX.out
   unfold M.pArr at ex
   clear EX
   have EX := Lib.hid ex
   clear ex
   go_wp2_with fail
   have C5 := Lib.hid (accept_word P_4.out ⟨#[91]⟩ (s := [91]) rfl ⟨by decide, by decide⟩)
   (with_reducible refine (C5.out).mono ?_)
   rintro e w5 ⟨he, hp, hb⟩
   have RES_5 := Lib.hid (RES_4.out.but hb (by have := HR.out; omega))
   clear RES_4
   have SLE_5 := Lib.hid (Nat.le_trans SLE_4.out hb.size)
   clear SLE_4
   have B_5 := Lib.hid (B_4.out.trans hb)
   clear hb B_4
   by_cases hc : M.isS [91] r4 = true
   ·rw [hc] at he
    rw [if_pos hc] at hp
    subst he
    have ex := EX.out
    rw [if_pos hc] at ex
    clear EX
    have EX := Lib.hid ex
    have P_5 := Lib.hid hp
    have HC5 := Lib.hid hc
    clear ex hp hc P_4
    go_wp2_with fail
    have C6 := Lib.hid (number_any w5 (r4.tail) P_5.out (fun h => HX.out (EX.out.trans (by rw [h]; rfl))))
    (with_reducible refine (C6.out).mono ?_)
    intro e w6 hE
    rcases M.Res.em (M.pNumber (r4.tail)) with hk | ⟨r6, hk⟩ | ⟨a6, r6, hk⟩
    ·exact absurd (EX.out.trans (by rw [hk]; rfl)) HX.out
    ·rw [hk] at hE
     obtain ⟨he, hb⟩ := hE
     unfold pv at he
     subst he
     have HB := Lib.hid (B_5.out.trans hb)
     have ex := EX.out
     rw [hk] at ex
     try rw [M.Res.bind_bad] at ex
     have EX2 := Lib.hid ex
     clear ex hk hb
     go_wp2_with fail
     rw [EX2.out]
     exact ⟨rfl, rfl, HB.out⟩
    rw [hk] at hE
    obtain ⟨⟨he, hn⟩, hp, hb⟩ := hE
    subst he
    have HN6 := Lib.hid hn
    clear hn
    have RES_6 := Lib.hid (RES_5.out.but hb (by have := HR.out; omega))
    clear RES_5
    have SLE_6 := Lib.hid (Nat.le_trans SLE_5.out hb.size)
    clear SLE_5
    have P_6 := Lib.hid hp
    have B_6 := Lib.hid (B_5.out.trans hb)
    clear hp hb P_5 B_5
    have ex := EX.out
    rw [hk] at ex
    try rw [M.Res.bind_ok] at ex
    clear EX
    have EX := Lib.hid ex
    clear ex hk
    go_wp2_with fail
    have C7 := Lib.hid (expect_any P_6.out ⟨#[93]⟩ (s := [93]) rfl ⟨by decide, by decide⟩)
    (with_reducible refine (C7.out).mono ?_)
    intro e w7 hE
    rcases M.Res.em (M.take [93] r6) with hk | ⟨r7, hk⟩ | ⟨a7, r7, hk⟩
    ·exact absurd (EX.out.trans (by rw [hk]; rfl)) HX.out
    ·rw [hk] at hE
     obtain ⟨he, hb⟩ := hE
     unfold pv at he
     subst he
     have HB := Lib.hid (B_6.out.trans hb)
     have ex := EX.out
     rw [hk] at ex
     try rw [M.Res.bind_bad] at ex
     have EX2 := Lib.hid ex
     clear ex hk hb
     go_wp2_with fail
     rw [EX2.out]
     exact ⟨rfl, rfl, HB.out⟩
    rw [hk] at hE
    obtain ⟨he, hp, hb⟩ := hE
    unfold vUnit at he
    subst he
    have RES_7 := Lib.hid (RES_6.out.but hb (by have := HR.out; omega))
    clear RES_6
    have SLE_7 := Lib.hid (Nat.le_trans SLE_6.out hb.size)
    clear SLE_6
    have P_7 := Lib.hid hp
    have B_7 := Lib.hid (B_6.out.trans hb)
    clear hp hb P_6 B_6
    have ex := EX.out
    rw [hk] at ex
    try rw [M.Res.bind_ok] at ex
    clear EX
    have EX := Lib.hid ex
    clear ex hk
    obtain ⟨q0, q1, q2, q3⟩ := RES_7.out.c
    obtain ⟨z0, z1, z2, z3⟩ := RES_7.out.fz
    have lr0 : w.heap.size < w7.heap.size := RES_7.out.lt
    have lr1 : w.heap.size < w7.heap.size + 1 := by have := RES_7.out.lt; omega
    go_wp2_with fail
    refine bodyPost_ret (v := .agg #[.int .i64 11, .string ⟨#[]⟩, .int .u64 3, .slice (some ⟨w7.heap.size, 0, none⟩) 2 2]) (by simp [results, Tryz.results162, go_sem, q0, q1, q2, q3, lr0]) rfl ?_
    rw [EX.out]
    exact tree_lit _ _ _ (g := none) (k := 11) (T := ⟨#[]⟩) (n := 3) (l := [⟨14, ⟨#[]⟩, a4, none, 0, 0⟩, ⟨14, ⟨#[]⟩, a6, none, 0, 0⟩]) [] #[.int .i64 14, .string ⟨#[]⟩, .int .u64 (a4 : Nat), .slice none 0 0, .int .i64 14, .string ⟨#[]⟩, .int .u64 (a6 : Nat), .slice none 0 0] HR.out.2.1 SLE_7.out B_7.out P_7.out (.cons ((NodeN.make (k := 14) (T := ⟨#[]⟩) (n := a4) (KidsN.nil _ _ _) rfl ⟨by omega, HN4.out, by decide⟩)) (.cons ((NodeN.make (k := 14) (T := ⟨#[]⟩) (n := a6) (KidsN.nil _ _ _) rfl ⟨by omega, HN6.out, by decide⟩)) .nil)) (by simp) rfl rfl ⟨by omega, by omega, by decide⟩ (by simp) (by simp) (by simp)
   ·rw [if_neg hc] at hp
    rw [show M.isS [91] r4 = false by simpa using hc] at he
    subst he
    have ex := EX.out
    rw [if_neg hc] at ex
    clear EX
    have EX := Lib.hid ex
    have P_5 := Lib.hid hp
    have HC5 := Lib.hid hc
    clear ex hp hc P_4
    obtain ⟨q0, q1, q2, q3⟩ := RES_5.out.c
    obtain ⟨z0, z1, z2, z3⟩ := RES_5.out.fz
    have lr0 : w.heap.size < w5.heap.size := RES_5.out.lt
    have lr1 : w.heap.size < w5.heap.size + 1 := by have := RES_5.out.lt; omega
    go_wp2_with fail
    refine bodyPost_ret (v := .agg #[.int .i64 11, .string ⟨#[]⟩, .int .u64 3, .slice (some ⟨w5.heap.size, 0, none⟩) 2 2]) (by simp [results, Tryz.results162, go_sem, q0, q1, q2, q3, lr0]) rfl ?_
    rw [EX.out]
    exact tree_lit _ _ _ (g := none) (k := 11) (T := ⟨#[]⟩) (n := 3) (l := [⟨14, ⟨#[]⟩, a4, none, 0, 0⟩, ⟨14, ⟨#[]⟩, 0, none, 0, 0⟩]) [] #[.int .i64 14, .string ⟨#[]⟩, .int .u64 (a4 : Nat), .slice none 0 0, .int .i64 14, .string ⟨#[]⟩, .int .u64 (0 : Nat), .slice none 0 0] HR.out.2.1 SLE_5.out B_5.out P_5.out (.cons ((NodeN.make (k := 14) (T := ⟨#[]⟩) (n := a4) (KidsN.nil _ _ _) rfl ⟨by omega, HN4.out, by decide⟩)) (.cons ((NodeN.make (k := 14) (T := ⟨#[]⟩) (n := 0) (KidsN.nil _ _ _) rfl ⟨by omega, by omega, by decide⟩)) .nil)) (by simp) rfl rfl ⟨by omega, by omega, by decide⟩ (by simp) (by simp) (by simp)
theorem recipient_any : PC hi R N vTree 150 M.pTo := by
 intro w ts h hne
 have h := h
 have hud := hud9
 have HR := Lib.hid (show R < hi /\ hi <= w.heap.size /\ ts.length <= 20000 from ⟨h.1, h.2.1, by obtain ⟨_, _, _, _, _, _, _, _, _, _, _, h9, _⟩ := h; exact h9⟩)
 obtain ⟨X, eX⟩ : ∃ X, X = M.pTo ts := ⟨_, rfl⟩
 rw [<- eX] at hne ⊢
 unfold M.pTo at eX
 have EX := Lib.hid eX
 have HX := Lib.hid hne
 clear eX hne
 have P_0 := Lib.hid h
 have B_0 := Lib.hid (But.refl R w)
 clear h
 go_enter Tryz.func150, Tryz.ntmps150
 go_wp2_with fail
 obtain ⟨w0, ew0⟩ : ∃ w0, w0 = w.alloc (.cells #[.int .i64 0, .string ⟨#[]⟩, .int .u64 0, .slice none 0 0] 25) := ⟨_, rfl⟩
 rw [<- ew0]
 have RES_0 := Lib.hid (show Box9 w0 w.heap.size V9.no by rw [ew0]; exact Box9.start w V9.no)
 have SLE_0 := Lib.hid (show w.heap.size + 1 <= w0.heap.size by rw [ew0]; simp)
 have P_00 := Lib.hid (show PS hi R N w0 ts by rw [ew0]; exact P_0.out.alloc _)
 have B_00 := Lib.hid (show But R w w0 by rw [ew0]; exact B_0.out.alloc _)
 clear ew0 P_0 B_0
 have C1 := Lib.hid (number_any w0 ts P_00.out (fun h => HX.out (EX.out.trans (by rw [h]; rfl))))
 (with_reducible refine (C1.out).mono ?_)
 intro e w1 hE
 rcases M.Res.em (M.pNumber ts) with hk | ⟨r1, hk⟩ | ⟨a1, r1, hk⟩
 ·exact absurd (EX.out.trans (by rw [hk]; rfl)) HX.out
 ·rw [hk] at hE
  obtain ⟨he, hb⟩ := hE
  unfold pv at he
  subst he
  have HB := Lib.hid (B_00.out.trans hb)
  have ex := EX.out
  rw [hk] at ex
  try rw [M.Res.bind_bad] at ex
  have EX2 := Lib.hid ex
  clear ex hk hb
  go_wp2_with fail
  rw [EX2.out]
  exact ⟨rfl, rfl, HB.out⟩
 rw [hk] at hE
 obtain ⟨⟨he, hn⟩, hp, hb⟩ := hE
 subst he
 have HN1 := Lib.hid hn
 clear hn
 have RES_1 := Lib.hid (RES_0.out.but hb (by have := HR.out; omega))
 clear RES_0
 have SLE_1 := Lib.hid (Nat.le_trans SLE_0.out hb.size)
 clear SLE_0
 have P_1 := Lib.hid hp
 have B_1 := Lib.hid (B_00.out.trans hb)
 clear hp hb P_00 B_00
 have ex := EX.out
 rw [hk] at ex
 try rw [M.Res.bind_ok] at ex
 clear EX
 have EX := Lib.hid ex
 clear ex hk
 obtain ⟨q0, q1, q2, q3⟩ := RES_1.out.c
 obtain ⟨z0, z1, z2, z3⟩ := RES_1.out.fz
 have lr0 : w.heap.size < w1.heap.size := RES_1.out.lt
 go_wp2_with fail
 refine bodyPost_ret (v := .agg #[.int .i64 12, .string ⟨#[]⟩, .int .u64 (a1 : Nat), .slice none 0 0]) (by simp [results, Tryz.results150, go_sem, q0, q1, q2, q3]) rfl ?_
 rw [EX.out]
 exact tree_end _ _ _ (y := ⟨12, ⟨#[]⟩, a1, none, 0, 0⟩) HR.out.2.1 B_1.out (NodeN.make (k := 12) (T := ⟨#[]⟩) (n := a1) (KidsN.nil _ none _) rfl ⟨by omega, HN1.out, by decide⟩) P_1.out
theorem declared_any : PC hi R N vDecl 142 M.pDecl := by
 intro w ts h hne
 have h := h
 have hud := hud9
 have HR := Lib.hid (show R < hi /\ hi <= w.heap.size /\ ts.length <= 20000 from ⟨h.1, h.2.1, by obtain ⟨_, _, _, _, _, _, _, _, _, _, _, h9, _⟩ := h; exact h9⟩)
 obtain ⟨X, eX⟩ : ∃ X, X = M.pDecl ts := ⟨_, rfl⟩
 rw [<- eX] at hne ⊢
 unfold M.pDecl at eX
 have EX := Lib.hid eX
 have HX := Lib.hid hne
 clear eX hne
 have P_0 := Lib.hid h
 have B_0 := Lib.hid (But.refl R w)
 clear h
 go_enter Tryz.func142, Tryz.ntmps142
 go_wp2_with fail
 obtain ⟨w0, ew0⟩ : ∃ w0, w0 = w.alloc (.cells #[.int .i64 0, .string ⟨#[]⟩, .int .u64 0, .slice none 0 0] 25) := ⟨_, rfl⟩
 rw [<- ew0]
 have RES_0 := Lib.hid (show Box9 w0 w.heap.size V9.no by rw [ew0]; exact Box9.start w V9.no)
 have SLE_0 := Lib.hid (show w.heap.size + 1 <= w0.heap.size by rw [ew0]; simp)
 have P_00 := Lib.hid (show PS hi R N w0 ts by rw [ew0]; exact P_0.out.alloc _)
 have B_00 := Lib.hid (show But R w w0 by rw [ew0]; exact B_0.out.alloc _)
 clear ew0 P_0 B_0
 have C1 := Lib.hid (name_any w0 ts P_00.out (fun h => HX.out (EX.out.trans (by rw [h]; rfl))))
 (with_reducible refine (C1.out).mono ?_)
 intro e w1 hE
 rcases M.Res.em (M.pName ts) with hk | ⟨r1, hk⟩ | ⟨a1, r1, hk⟩
 ·exact absurd (EX.out.trans (by rw [hk]; rfl)) HX.out
 ·rw [hk] at hE
  obtain ⟨he, hb⟩ := hE
  unfold pv at he
  subst he
  have HB := Lib.hid (B_00.out.trans hb)
  have ex := EX.out
  rw [hk] at ex
  try rw [M.Res.bind_bad] at ex
  have EX2 := Lib.hid ex
  clear ex hk hb
  go_wp2_with fail
  rw [EX2.out]
  exact ⟨rfl, rfl, HB.out⟩
 rw [hk] at hE
 obtain ⟨⟨T1, he, hT, hTs⟩, hp, hb⟩ := hE
 subst he
 have HT1 := Lib.hid hT
 have HTs1 := Lib.hid hTs
 clear hT hTs
 have RES_1 := Lib.hid (RES_0.out.but hb (by have := HR.out; omega))
 clear RES_0
 have SLE_1 := Lib.hid (Nat.le_trans SLE_0.out hb.size)
 clear SLE_0
 have P_1 := Lib.hid hp
 have B_1 := Lib.hid (B_00.out.trans hb)
 clear hp hb P_00 B_00
 have ex := EX.out
 rw [hk] at ex
 try rw [M.Res.bind_ok] at ex
 clear EX
 have EX := Lib.hid ex
 clear ex hk
 go_wp2_with fail
 have C2 := Lib.hid (expect_any P_1.out ⟨#[58]⟩ (s := [58]) rfl ⟨by decide, by decide⟩)
 (with_reducible refine (C2.out).mono ?_)
 intro e w2 hE
 rcases M.Res.em (M.take [58] r1) with hk | ⟨r2, hk⟩ | ⟨a2, r2, hk⟩
 ·exact absurd (EX.out.trans (by rw [hk]; rfl)) HX.out
 ·rw [hk] at hE
  obtain ⟨he, hb⟩ := hE
  unfold pv at he
  subst he
  have HB := Lib.hid (B_1.out.trans hb)
  have ex := EX.out
  rw [hk] at ex
  try rw [M.Res.bind_bad] at ex
  have EX2 := Lib.hid ex
  clear ex hk hb
  go_wp2_with fail
  rw [EX2.out]
  exact ⟨rfl, rfl, HB.out⟩
 rw [hk] at hE
 obtain ⟨he, hp, hb⟩ := hE
 unfold vUnit at he
 subst he
 have RES_2 := Lib.hid (RES_1.out.but hb (by have := HR.out; omega))
 clear RES_1
 have SLE_2 := Lib.hid (Nat.le_trans SLE_1.out hb.size)
 clear SLE_1
 have P_2 := Lib.hid hp
 have B_2 := Lib.hid (B_1.out.trans hb)
 clear hp hb P_1 B_1
 have ex := EX.out
 rw [hk] at ex
 try rw [M.Res.bind_ok] at ex
 clear EX
 have EX := Lib.hid ex
 clear ex hk
 go_wp2_with fail
 have C3 := Lib.hid (kind_any w2 r2 P_2.out (fun h => HX.out (EX.out.trans (by rw [h]; rfl))))
 have SLB3 := Lib.hid (SLE_2.out)
 (with_reducible refine (C3.out).mono ?_)
 intro e w3 hE
 rcases M.Res.em (M.pTyp r2) with hk | ⟨r3, hk⟩ | ⟨a3, r3, hk⟩
 ·exact absurd (EX.out.trans (by rw [hk]; rfl)) HX.out
 ·rw [hk] at hE
  obtain ⟨he, hb⟩ := hE
  unfold pv at he
  subst he
  have HB := Lib.hid (B_2.out.trans hb)
  have ex := EX.out
  rw [hk] at ex
  try rw [M.Res.bind_bad] at ex
  have EX2 := Lib.hid ex
  clear ex hk hb
  go_wp2_with fail
  rw [EX2.out]
  exact ⟨rfl, rfl, HB.out⟩
 rw [hk] at hE
 obtain ⟨⟨v, he, hv⟩, hp, hb⟩ := hE
 subst he
 obtain ⟨x3, rfl⟩ := hv.v9e
 have RES_3 := Lib.hid (RES_2.out.but hb (by have := HR.out; omega))
 clear RES_2
 have SLE_3 := Lib.hid (Nat.le_trans SLE_2.out hb.size)
 clear SLE_2
 have T3_3 := Lib.hid (hv.lo SLB3.out)
 have P_3 := Lib.hid hp
 have B_3 := Lib.hid (B_2.out.trans hb)
 clear hp hb hv P_2 B_2
 have ex := EX.out
 rw [hk] at ex
 try rw [M.Res.bind_ok] at ex
 clear EX
 have EX := Lib.hid ex
 clear ex hk
 obtain ⟨q0, q1, q2, q3⟩ := RES_3.out.c
 obtain ⟨z0, z1, z2, z3⟩ := RES_3.out.fz
 have lr0 : w.heap.size < w3.heap.size := RES_3.out.lt
 have lr1 : w.heap.size < w3.heap.size + 1 := by have := RES_3.out.lt; omega
 go_wp2_with fail
 go_region
 go_wp2_with fail
 refine bodyPost_ret (v := .tuple #[.string T1, .agg #[.int .i64 x3.kind, .string x3.text, .int .u64 (x3.num : Nat), .slice x3.ka x3.kn x3.kc]]) (by simp [results, Tryz.results142, go_sem, q0, q1, q2, q3, lr0]) rfl ?_
 rw [EX.out]
 exact decl_end _ _ _ (y := x3) [(.cells #[.int .i64 x3.kind, .string x3.text, .int .u64 (x3.num : Nat), .slice x3.ka x3.kn x3.kc] 25)] HR.out.2.1 B_3.out T3_3.out P_3.out HT1.out HTs1.out
theorem parameter_any : PC hi R N vTree 152 M.pArg := by
 intro w ts h hne
 have h := h
 have hud := hud9
 have HR := Lib.hid (show R < hi /\ hi <= w.heap.size /\ ts.length <= 20000 from ⟨h.1, h.2.1, by obtain ⟨_, _, _, _, _, _, _, _, _, _, _, h9, _⟩ := h; exact h9⟩)
 obtain ⟨X, eX⟩ : ∃ X, X = M.pArg ts := ⟨_, rfl⟩
 rw [<- eX] at hne ⊢
 rw [M.pArg_decl] at eX
 have EX := Lib.hid eX
 have HX := Lib.hid hne
 clear eX hne
 have P_0 := Lib.hid h
 have B_0 := Lib.hid (But.refl R w)
 clear h
 go_enter Tryz.func152, Tryz.ntmps152
 go_wp2_with fail
 obtain ⟨w0, ew0⟩ : ∃ w0, w0 = w.alloc (.cells #[.int .i64 0, .string ⟨#[]⟩, .int .u64 0, .slice none 0 0] 25) := ⟨_, rfl⟩
 rw [<- ew0]
 have RES_0 := Lib.hid (show Box9 w0 w.heap.size V9.no by rw [ew0]; exact Box9.start w V9.no)
 have SLE_0 := Lib.hid (show w.heap.size + 1 <= w0.heap.size by rw [ew0]; simp)
 have P_00 := Lib.hid (show PS hi R N w0 ts by rw [ew0]; exact P_0.out.alloc _)
 have B_00 := Lib.hid (show But R w w0 by rw [ew0]; exact B_0.out.alloc _)
 clear ew0 P_0 B_0
 have C1 := Lib.hid (declared_any w0 ts P_00.out (fun h => HX.out (EX.out.trans (by rw [h]; rfl))))
 have SLB1 := Lib.hid (SLE_0.out)
 (with_reducible refine (C1.out).mono ?_)
 intro e w1 hE
 rcases M.Res.em (M.pDecl ts) with hk | ⟨r1, hk⟩ | ⟨a1, r1, hk⟩
 ·exact absurd (EX.out.trans (by rw [hk]; rfl)) HX.out
 ·rw [hk] at hE
  obtain ⟨he, hb⟩ := hE
  unfold pv at he
  subst he
  have HB := Lib.hid (B_00.out.trans hb)
  have ex := EX.out
  rw [hk] at ex
  try rw [M.Res.bind_bad] at ex
  have EX2 := Lib.hid ex
  clear ex hk hb
  go_wp2_with fail
  rw [EX2.out]
  exact ⟨rfl, rfl, HB.out⟩
 rw [hk] at hE
 obtain ⟨⟨T1, v, he, hT, hTs, hv⟩, hp, hb⟩ := hE
 subst he
 obtain ⟨x1, rfl⟩ := hv.v9e
 have HT1 := Lib.hid hT
 have HTs1 := Lib.hid hTs
 clear hT hTs
 have RES_1 := Lib.hid (RES_0.out.but hb (by have := HR.out; omega))
 clear RES_0
 have SLE_1 := Lib.hid (Nat.le_trans SLE_0.out hb.size)
 clear SLE_0
 have T1_1 := Lib.hid (hv.lo SLB1.out)
 have P_1 := Lib.hid hp
 have B_1 := Lib.hid (B_00.out.trans hb)
 clear hp hb hv P_00 B_00
 have ex := EX.out
 rw [hk] at ex
 try rw [M.Res.bind_ok] at ex
 clear EX
 have EX := Lib.hid ex
 clear ex hk
 obtain ⟨q0, q1, q2, q3⟩ := RES_1.out.c
 obtain ⟨z0, z1, z2, z3⟩ := RES_1.out.fz
 have lr0 : w.heap.size < w1.heap.size := RES_1.out.lt
 have lr1 : w.heap.size < w1.heap.size + 1 := by have := RES_1.out.lt; omega
 have lr2 : w.heap.size < w1.heap.size + 2 := by have := RES_1.out.lt; omega
 go_wp2_with fail
 refine bodyPost_ret (v := .agg #[.int .i64 13, .string T1, .int .u64 0, .slice (some ⟨w1.heap.size + 1, 0, none⟩) 1 1]) (by simp [results, Tryz.results152, go_sem, q0, q1, q2, q3, lr0, lr1]) rfl ?_
 rw [EX.out]
 exact tree_lit _ _ _ (g := none) (k := 13) (T := T1) (n := 0) (l := [x1]) [(.cells #[.int .i64 x1.kind, .string x1.text, .int .u64 (x1.num : Nat), .slice x1.ka x1.kn x1.kc] 25)] #[.int .i64 x1.kind, .string x1.text, .int .u64 (x1.num : Nat), .slice x1.ka x1.kn x1.kc] HR.out.2.1 SLE_1.out B_1.out P_1.out (.cons T1_1.out .nil) (by simp) rfl HT1.out ⟨by omega, by omega, by have := HTs1.out; omega⟩ (by simp) (by simp) (by simp)
theorem in_any : PC hi R N vTree 108 M.pIn := by
 intro w ts h hne
 have h := h
 have hud := hud9
 have HR := Lib.hid (show R < hi /\ hi <= w.heap.size /\ ts.length <= 20000 from ⟨h.1, h.2.1, by obtain ⟨_, _, _, _, _, _, _, _, _, _, _, h9, _⟩ := h; exact h9⟩)
 obtain ⟨X, eX⟩ : ∃ X, X = M.pIn ts := ⟨_, rfl⟩
 rw [<- eX] at hne ⊢
 rw [M.pIn_decl] at eX
 have EX := Lib.hid eX
 have HX := Lib.hid hne
 clear eX hne
 have P_0 := Lib.hid h
 have B_0 := Lib.hid (But.refl R w)
 clear h
 go_enter Tryz.func108, Tryz.ntmps108
 go_wp2_with fail
 obtain ⟨w0, ew0⟩ : ∃ w0, w0 = w.alloc (.cells #[.int .i64 0, .string ⟨#[]⟩, .int .u64 0, .slice none 0 0] 25) := ⟨_, rfl⟩
 rw [<- ew0]
 have RES_0 := Lib.hid (show Box9 w0 w.heap.size V9.no by rw [ew0]; exact Box9.start w V9.no)
 have SLE_0 := Lib.hid (show w.heap.size + 1 <= w0.heap.size by rw [ew0]; simp)
 have P_00 := Lib.hid (show PS hi R N w0 ts by rw [ew0]; exact P_0.out.alloc _)
 have B_00 := Lib.hid (show But R w w0 by rw [ew0]; exact B_0.out.alloc _)
 clear ew0 P_0 B_0
 have C1 := Lib.hid (declared_any w0 ts P_00.out (fun h => HX.out (EX.out.trans (by rw [h]; rfl))))
 have SLB1 := Lib.hid (SLE_0.out)
 (with_reducible refine (C1.out).mono ?_)
 intro e w1 hE
 rcases M.Res.em (M.pDecl ts) with hk | ⟨r1, hk⟩ | ⟨a1, r1, hk⟩
 ·exact absurd (EX.out.trans (by rw [hk]; rfl)) HX.out
 ·rw [hk] at hE
  obtain ⟨he, hb⟩ := hE
  unfold pv at he
  subst he
  have HB := Lib.hid (B_00.out.trans hb)
  have ex := EX.out
  rw [hk] at ex
  try rw [M.Res.bind_bad] at ex
  have EX2 := Lib.hid ex
  clear ex hk hb
  go_wp2_with fail
  rw [EX2.out]
  exact ⟨rfl, rfl, HB.out⟩
 rw [hk] at hE
 obtain ⟨⟨T1, v, he, hT, hTs, hv⟩, hp, hb⟩ := hE
 subst he
 obtain ⟨x1, rfl⟩ := hv.v9e
 have HT1 := Lib.hid hT
 have HTs1 := Lib.hid hTs
 clear hT hTs
 have RES_1 := Lib.hid (RES_0.out.but hb (by have := HR.out; omega))
 clear RES_0
 have SLE_1 := Lib.hid (Nat.le_trans SLE_0.out hb.size)
 clear SLE_0
 have T1_1 := Lib.hid (hv.lo SLB1.out)
 have P_1 := Lib.hid hp
 have B_1 := Lib.hid (B_00.out.trans hb)
 clear hp hb hv P_00 B_00
 have ex := EX.out
 rw [hk] at ex
 try rw [M.Res.bind_ok] at ex
 clear EX
 have EX := Lib.hid ex
 clear ex hk
 go_wp2_with fail
 obtain ⟨v2, ev2⟩ : ∃ v, v = w1.alloc (.cells #[.int .i64 x1.kind, .string x1.text, .int .u64 (x1.num : Nat), .slice x1.ka x1.kn x1.kc] 25) := ⟨_, rfl⟩
 rw [<- ev2]
 have A2 := Lib.hid (show Below w1.heap.size w1 v2 by rw [ev2]; exact (Below.refl _ _).alloc (Nat.le_refl _) _)
 obtain ⟨b2, eb2⟩ : ∃ b, b = w1.heap.size := ⟨_, rfl⟩
 have X2 := Lib.hid (show Box9 v2 b2 x1 by rw [ev2, eb2]; exact Box9.start _ x1)
 have LBX2 := Lib.hid (show hi <= b2 by rw [eb2]; exact P_1.out.2.1)
 have LWX2 := Lib.hid (show w.heap.size < b2 by rw [eb2]; exact SLE_1.out)
 rw [<- eb2]
 have RES_2 := Lib.hid (RES_1.out.below A2.out)
 clear RES_1
 have SLE_2 := Lib.hid (Nat.le_trans SLE_1.out A2.out.size)
 clear SLE_1
 have T1_2 := Lib.hid (T1_1.out.step (Below.stay A2.out))
 clear T1_1
 have P_2 := Lib.hid (P_1.out.below A2.out)
 clear P_1
 have B_2 := Lib.hid (B_1.out.below A2.out)
 clear B_1
 clear ev2 eb2 A2
 have C3 := Lib.hid (expect_any P_2.out ⟨#[102, 114, 111, 109]⟩ (s := [102, 114, 111, 109]) rfl ⟨by decide, by decide⟩)
 (with_reducible refine (C3.out).mono ?_)
 intro e w3 hE
 rcases M.Res.em (M.take [102, 114, 111, 109] r1) with hk | ⟨r3, hk⟩ | ⟨a3, r3, hk⟩
 ·exact absurd (EX.out.trans (by rw [hk]; rfl)) HX.out
 ·rw [hk] at hE
  obtain ⟨he, hb⟩ := hE
  unfold pv at he
  subst he
  have HB := Lib.hid (B_2.out.trans hb)
  have ex := EX.out
  rw [hk] at ex
  try rw [M.Res.bind_bad] at ex
  have EX2 := Lib.hid ex
  clear ex hk hb
  go_wp2_with fail
  rw [EX2.out]
  exact ⟨rfl, rfl, HB.out⟩
 rw [hk] at hE
 obtain ⟨he, hp, hb⟩ := hE
 unfold vUnit at he
 subst he
 have RES_3 := Lib.hid (RES_2.out.but hb (by have := HR.out; omega))
 clear RES_2
 have SLE_3 := Lib.hid (Nat.le_trans SLE_2.out hb.size)
 clear SLE_2
 have T1_3 := Lib.hid (T1_2.out.step (hb.stay (by have := HR.out; omega)))
 clear T1_2
 have X2_3 := Lib.hid (X2.out.but hb (by have := HR.out; have := LBX2.out; omega))
 clear X2
 have P_3 := Lib.hid hp
 have B_3 := Lib.hid (B_2.out.trans hb)
 clear hp hb P_2 B_2
 have ex := EX.out
 rw [hk] at ex
 try rw [M.Res.bind_ok] at ex
 clear EX
 have EX := Lib.hid ex
 clear ex hk
 go_wp2_with fail
 have C4 := Lib.hid (number_any w3 r3 P_3.out (fun h => HX.out (EX.out.trans (by rw [h]; rfl))))
 (with_reducible refine (C4.out).mono ?_)
 intro e w4 hE
 rcases M.Res.em (M.pNumber r3) with hk | ⟨r4, hk⟩ | ⟨a4, r4, hk⟩
 ·exact absurd (EX.out.trans (by rw [hk]; rfl)) HX.out
 ·rw [hk] at hE
  obtain ⟨he, hb⟩ := hE
  unfold pv at he
  subst he
  have HB := Lib.hid (B_3.out.trans hb)
  have ex := EX.out
  rw [hk] at ex
  try rw [M.Res.bind_bad] at ex
  have EX2 := Lib.hid ex
  clear ex hk hb
  go_wp2_with fail
  rw [EX2.out]
  exact ⟨rfl, rfl, HB.out⟩
 rw [hk] at hE
 obtain ⟨⟨he, hn⟩, hp, hb⟩ := hE
 subst he
 have HN4 := Lib.hid hn
 clear hn
 have RES_4 := Lib.hid (RES_3.out.but hb (by have := HR.out; omega))
 clear RES_3
 have SLE_4 := Lib.hid (Nat.le_trans SLE_3.out hb.size)
 clear SLE_3
 have T1_4 := Lib.hid (T1_3.out.step (hb.stay (by have := HR.out; omega)))
 clear T1_3
 have X2_4 := Lib.hid (X2_3.out.but hb (by have := HR.out; have := LBX2.out; omega))
 clear X2_3
 have P_4 := Lib.hid hp
 have B_4 := Lib.hid (B_3.out.trans hb)
 clear hp hb P_3 B_3
 have ex := EX.out
 rw [hk] at ex
 try rw [M.Res.bind_ok] at ex
 clear EX
 have EX := Lib.hid ex
 clear ex hk
 go_wp2_with fail
 have C5 := Lib.hid (expect_any P_4.out ⟨#[59]⟩ (s := [59]) rfl ⟨by decide, by decide⟩)
 (with_reducible refine (C5.out).mono ?_)
 intro e w5 hE
 rcases M.Res.em (M.take [59] r4) with hk | ⟨r5, hk⟩ | ⟨a5, r5, hk⟩
 ·exact absurd (EX.out.trans (by rw [hk]; rfl)) HX.out
 ·rw [hk] at hE
  obtain ⟨he, hb⟩ := hE
  unfold pv at he
  subst he
  have HB := Lib.hid (B_4.out.trans hb)
  have ex := EX.out
  rw [hk] at ex
  try rw [M.Res.bind_bad] at ex
  have EX2 := Lib.hid ex
  clear ex hk hb
  go_wp2_with fail
  rw [EX2.out]
  exact ⟨rfl, rfl, HB.out⟩
 rw [hk] at hE
 obtain ⟨he, hp, hb⟩ := hE
 unfold vUnit at he
 subst he
 have RES_5 := Lib.hid (RES_4.out.but hb (by have := HR.out; omega))
 clear RES_4
 have SLE_5 := Lib.hid (Nat.le_trans SLE_4.out hb.size)
 clear SLE_4
 have T1_5 := Lib.hid (T1_4.out.step (hb.stay (by have := HR.out; omega)))
 clear T1_4
 have X2_5 := Lib.hid (X2_4.out.but hb (by have := HR.out; have := LBX2.out; omega))
 clear X2_4
 have P_5 := Lib.hid hp
 have B_5 := Lib.hid (B_4.out.trans hb)
 clear hp hb P_4 B_4
 have ex := EX.out
 rw [hk] at ex
 try rw [M.Res.bind_ok] at ex
 clear EX
 have EX := Lib.hid ex
 clear ex hk
 obtain ⟨kb20, kb21, kb22, kb23⟩ := X2_5.out.c
 have lb20 : b2 < w5.heap.size := X2_5.out.lt
 have lb21 : b2 < w5.heap.size + 1 := by have := X2_5.out.lt; omega
 obtain ⟨q0, q1, q2, q3⟩ := RES_5.out.c
 obtain ⟨z0, z1, z2, z3⟩ := RES_5.out.fz
 have lr0 : w.heap.size < w5.heap.size := RES_5.out.lt
 have lr1 : w.heap.size < w5.heap.size + 1 := by have := RES_5.out.lt; omega
 go_wp2_with fail
 refine bodyPost_ret (v := .agg #[.int .i64 2, .string T1, .int .u64 a4, .slice (some ⟨w5.heap.size, 0, none⟩) 1 1]) (by simp [results, Tryz.results108, go_sem, q0, q1, q2, q3, lr0]) rfl ?_
 rw [EX.out]
 exact tree_lit _ _ _ (g := none) (k := 2) (T := T1) (n := a4) (l := [x1]) [] #[.int .i64 x1.kind, .string x1.text, .int .u64 (x1.num : Nat), .slice x1.ka x1.kn x1.kc] HR.out.2.1 SLE_5.out B_5.out P_5.out (.cons T1_5.out .nil) (by simp) rfl HT1.out ⟨by omega, HN4.out, by have := HTs1.out; omega⟩ (by simp) (by simp) (by simp)
end Go.Proofs.YtngpedcihajepaaGreatDoor
namespace Go.Proofs.YtngpedcihajepaaGreatDoor
open Go.RowKit
variable {hi R N : Nat}
theorem M.sep_pos {p : List M.Tok -> M.Res M.Tree} : ∀ (c : Nat) (a : List M.Tree) (l : List M.Tok) {b : List M.Tree} {r : List M.Tok}, M.pSep p c a l = .ok b r -> a.length <= b.length
 | 0, a, l, b, r, h => by simp [M.pSep] at h
 | c + 1, a, l, b, r, h => by
  rw [M.pSep] at h
  split at h
  ·rcases M.Res.em (p l.tail) with hk | ⟨r1, hk⟩ | ⟨a1, r1, hk⟩
   ·rw [hk] at h; cases h
   ·rw [hk] at h; cases h
   ·rw [hk] at h
    have := M.sep_pos c _ _ h
    simp at this
    omega
  ·injection h with h1 h2
   rw [h1]; exact Nat.le_refl _
theorem M.list_pos {p : List M.Tok -> M.Res M.Tree} {c : Nat} {l : List M.Tok} {b : List M.Tree} {r : List M.Tok} (h : M.pList p c l = .ok b r) : 0 < b.length := by
 unfold M.pList at h
 rcases M.Res.em (p l) with hk | ⟨r1, hk⟩ | ⟨a1, r1, hk⟩
 ·rw [hk] at h; cases h
 ·rw [hk] at h; cases h
 ·rw [hk] at h
  exact M.sep_pos c _ _ h
theorem out_any {p : List M.Tok -> M.Res M.Tree} (HE : PC hi R N vTree 147 p) (c : Nat) : PC hi R N vTree 112 (M.pOut p c) := by
 intro w ts h hne
 have h := h
 have hud := hud9
 have HR := Lib.hid (show R < hi /\ hi <= w.heap.size /\ ts.length <= 20000 from ⟨h.1, h.2.1, by obtain ⟨_, _, _, _, _, _, _, _, _, _, _, h9, _⟩ := h; exact h9⟩)
 obtain ⟨X, eX⟩ : ∃ X, X = M.pOut p c ts := ⟨_, rfl⟩
 rw [<- eX] at hne ⊢
 unfold M.pOut at eX
 have EX := Lib.hid eX
 have HX := Lib.hid hne
 clear eX hne
 have P_0 := Lib.hid h
 have B_0 := Lib.hid (But.refl R w)
 clear h
 go_enter Tryz.func112, Tryz.ntmps112
 go_wp2_with fail
 obtain ⟨w0, ew0⟩ : ∃ w0, w0 = w.alloc (.cells #[.int .i64 0, .string ⟨#[]⟩, .int .u64 0, .slice none 0 0] 25) := ⟨_, rfl⟩
 rw [<- ew0]
 have RES_0 := Lib.hid (show Box9 w0 w.heap.size V9.no by rw [ew0]; exact Box9.start w V9.no)
 have SLE_0 := Lib.hid (show w.heap.size + 1 <= w0.heap.size by rw [ew0]; simp)
 have P_00 := Lib.hid (show PS hi R N w0 ts by rw [ew0]; exact P_0.out.alloc _)
 have B_00 := Lib.hid (show But R w w0 by rw [ew0]; exact B_0.out.alloc _)
 clear ew0 P_0 B_0
 have C1 := Lib.hid (HE w0 ts P_00.out (fun h => HX.out (EX.out.trans (by rw [h]; rfl))))
 have SLB1 := Lib.hid (SLE_0.out)
 (with_reducible refine (C1.out).mono ?_)
 intro e w1 hE
 rcases M.Res.em (p ts) with hk | ⟨r1, hk⟩ | ⟨a1, r1, hk⟩
 ·exact absurd (EX.out.trans (by rw [hk]; rfl)) HX.out
 ·rw [hk] at hE
  obtain ⟨he, hb⟩ := hE
  unfold pv at he
  subst he
  have HB := Lib.hid (B_00.out.trans hb)
  have ex := EX.out
  rw [hk] at ex
  try rw [M.Res.bind_bad] at ex
  have EX2 := Lib.hid ex
  clear ex hk hb
  go_wp2_with fail
  rw [EX2.out]
  exact ⟨rfl, rfl, HB.out⟩
 rw [hk] at hE
 obtain ⟨⟨v, he, hv⟩, hp, hb⟩ := hE
 subst he
 obtain ⟨x1, rfl⟩ := hv.v9e
 have RES_1 := Lib.hid (RES_0.out.but hb (by have := HR.out; omega))
 clear RES_0
 have SLE_1 := Lib.hid (Nat.le_trans SLE_0.out hb.size)
 clear SLE_0
 have T1_1 := Lib.hid (hv.lo SLB1.out)
 have P_1 := Lib.hid hp
 have B_1 := Lib.hid (B_00.out.trans hb)
 clear hp hb hv P_00 B_00
 have ex := EX.out
 rw [hk] at ex
 try rw [M.Res.bind_ok] at ex
 clear EX
 have EX := Lib.hid ex
 clear ex hk
 go_wp2_with fail
 obtain ⟨v2, ev2⟩ : ∃ v, v = w1.alloc (.cells #[.int .i64 x1.kind, .string x1.text, .int .u64 (x1.num : Nat), .slice x1.ka x1.kn x1.kc] 25) := ⟨_, rfl⟩
 rw [<- ev2]
 have A2 := Lib.hid (show Below w1.heap.size w1 v2 by rw [ev2]; exact (Below.refl _ _).alloc (Nat.le_refl _) _)
 obtain ⟨b2, eb2⟩ : ∃ b, b = w1.heap.size := ⟨_, rfl⟩
 have X2 := Lib.hid (show Box9 v2 b2 x1 by rw [ev2, eb2]; exact Box9.start _ x1)
 have LBX2 := Lib.hid (show hi <= b2 by rw [eb2]; exact P_1.out.2.1)
 have LWX2 := Lib.hid (show w.heap.size < b2 by rw [eb2]; exact SLE_1.out)
 have TT2 := Lib.hid ((T1_1.out.out (some b2) fun k e => .inr (by injection e with e; omega)).step (Below.stay A2.out))
 have L2_2 := Lib.hid (show RowN (w.heap.size + 1) v2 (.slice (some ⟨b2, 0, none⟩) 1 1) [a1] from RowN.lit (l := [x1]) (.cons TT2.out .nil) rfl X2.out (by have := LWX2.out; omega) rfl (by simp))
 clear T1_1 TT2
 rw [<- eb2]
 have RES_2 := Lib.hid (RES_1.out.below A2.out)
 clear RES_1
 have SLE_2 := Lib.hid (Nat.le_trans SLE_1.out A2.out.size)
 clear SLE_1
 have P_2 := Lib.hid (P_1.out.below A2.out)
 clear P_1
 have B_2 := Lib.hid (B_1.out.below A2.out)
 clear B_1
 clear ev2 eb2 A2
 have C3 := Lib.hid (expect_any P_2.out ⟨#[116, 111]⟩ (s := [116, 111]) rfl ⟨by decide, by decide⟩)
 (with_reducible refine (C3.out).mono ?_)
 intro e w3 hE
 rcases M.Res.em (M.take [116, 111] r1) with hk | ⟨r3, hk⟩ | ⟨a3, r3, hk⟩
 ·exact absurd (EX.out.trans (by rw [hk]; rfl)) HX.out
 ·rw [hk] at hE
  obtain ⟨he, hb⟩ := hE
  unfold pv at he
  subst he
  have HB := Lib.hid (B_2.out.trans hb)
  have ex := EX.out
  rw [hk] at ex
  try rw [M.Res.bind_bad] at ex
  have EX2 := Lib.hid ex
  clear ex hk hb
  go_wp2_with fail
  rw [EX2.out]
  exact ⟨rfl, rfl, HB.out⟩
 rw [hk] at hE
 obtain ⟨he, hp, hb⟩ := hE
 unfold vUnit at he
 subst he
 have RES_3 := Lib.hid (RES_2.out.but hb (by have := HR.out; omega))
 clear RES_2
 have SLE_3 := Lib.hid (Nat.le_trans SLE_2.out hb.size)
 clear SLE_2
 have L2_3 := Lib.hid (L2_2.out.step (hb.stay (by have := HR.out; omega)))
 clear L2_2
 have P_3 := Lib.hid hp
 have B_3 := Lib.hid (B_2.out.trans hb)
 clear hp hb P_2 B_2
 have ex := EX.out
 rw [hk] at ex
 try rw [M.Res.bind_ok] at ex
 clear EX
 have EX := Lib.hid ex
 clear ex hk
 go_wp2_with fail
 have C4 := Lib.hid (accept_word P_3.out ⟨#[97, 108, 108]⟩ (s := [97, 108, 108]) rfl ⟨by decide, by decide⟩)
 (with_reducible refine (C4.out).mono ?_)
 rintro e w4 ⟨he, hp, hb⟩
 have RES_4 := Lib.hid (RES_3.out.but hb (by have := HR.out; omega))
 clear RES_3
 have SLE_4 := Lib.hid (Nat.le_trans SLE_3.out hb.size)
 clear SLE_3
 have L2_4 := Lib.hid (L2_3.out.step (hb.stay (by have := HR.out; omega)))
 clear L2_3
 have B_4 := Lib.hid (B_3.out.trans hb)
 clear hb B_3
 by_cases hc : M.isS [97, 108, 108] r3 = true
 ·rw [hc] at he
  rw [if_pos hc] at hp
  subst he
  have ex := EX.out
  rw [if_pos hc] at ex
  try rw [M.Res.bind_ok] at ex
  clear EX
  have EX := Lib.hid ex
  have P_4 := Lib.hid hp
  have HC4 := Lib.hid hc
  clear ex hp hc P_3
  have HLz := Lib.hid (show [a1].length <= 100000 by simp)
  go_wp2_with fail
  have C5 := Lib.hid (expect_any P_4.out ⟨#[59]⟩ (s := [59]) rfl ⟨by decide, by decide⟩)
  (with_reducible refine (C5.out).mono ?_)
  intro e w5 hE
  rcases M.Res.em (M.take [59] (r3.tail)) with hk | ⟨r5, hk⟩ | ⟨a5, r5, hk⟩
  ·exact absurd (EX.out.trans (by rw [hk]; rfl)) HX.out
  ·rw [hk] at hE
   obtain ⟨he, hb⟩ := hE
   unfold pv at he
   subst he
   have HB := Lib.hid (B_4.out.trans hb)
   have ex := EX.out
   rw [hk] at ex
   try rw [M.Res.bind_bad] at ex
   have EX2 := Lib.hid ex
   clear ex hk hb
   go_wp2_with fail
   rw [EX2.out]
   exact ⟨rfl, rfl, HB.out⟩
  rw [hk] at hE
  obtain ⟨he, hp, hb⟩ := hE
  unfold vUnit at he
  subst he
  have RES_5 := Lib.hid (RES_4.out.but hb (by have := HR.out; omega))
  clear RES_4
  have SLE_5 := Lib.hid (Nat.le_trans SLE_4.out hb.size)
  clear SLE_4
  have L2_5 := Lib.hid (L2_4.out.step (hb.stay (by have := HR.out; omega)))
  clear L2_4
  have P_5 := Lib.hid hp
  have B_5 := Lib.hid (B_4.out.trans hb)
  clear hp hb P_4 B_4
  have ex := EX.out
  rw [hk] at ex
  try rw [M.Res.bind_ok] at ex
  clear EX
  have EX := Lib.hid ex
  clear ex hk
  obtain ⟨q0, q1, q2, q3⟩ := RES_5.out.c
  obtain ⟨z0, z1, z2, z3⟩ := RES_5.out.fz
  have lr0 : w.heap.size < w5.heap.size := RES_5.out.lt
  go_wp2_with fail
  refine bodyPost_ret (v := .agg #[.int .i64 8, .string ⟨#[]⟩, .int .u64 0, .slice (some ⟨b2, 0, none⟩) [a1].length 1]) (by simp [results, Tryz.results112, go_sem, q0, q1, q2, q3]) rfl ?_
  rw [EX.out]
  exact tree_end _ _ _ (y := ⟨8, ⟨#[]⟩, 0, (some ⟨b2, 0, none⟩), [a1].length, 1⟩) HR.out.2.1 B_5.out (NodeN.make (k := 8) (T := ⟨#[]⟩) (n := 0) (L2_5.out.kids (by have := HLz.out; omega)) rfl ⟨by omega, by omega, by decide⟩) P_5.out
 ·rw [if_neg hc] at hp
  rw [show M.isS [97, 108, 108] r3 = false by simpa using hc] at he
  subst he
  have ex := EX.out
  rw [if_neg hc] at ex
  clear EX
  have EX := Lib.hid ex
  have P_4 := Lib.hid hp
  have HC4 := Lib.hid hc
  clear ex hp hc P_3
  go_wp2_with fail
  have OWN := Lib.hid L2_4.out.own
  have C5 := Lib.hid (list_any recipient_any (fun args w => Tryz.call150 args w) (fun l a r e => by have := M.to_sh l; rw [e] at this; exact Nat.le_of_lt this) c w4 r3 P_4.out (fun h => HX.out (EX.out.trans (by rw [h]; rfl))))
  have SLB5 := Lib.hid (SLE_4.out)
  (with_reducible refine (C5.out).mono ?_)
  intro e w5 hE
  rcases M.Res.em (M.pList M.pTo c r3) with hk | ⟨r5, hk⟩ | ⟨a5, r5, hk⟩
  ·exact absurd (EX.out.trans (by rw [hk]; rfl)) HX.out
  ·rw [hk] at hE
   obtain ⟨he, hb⟩ := hE
   unfold pv at he
   subst he
   have HB := Lib.hid (B_4.out.trans hb)
   have ex := EX.out
   rw [hk] at ex
   try rw [M.Res.bind_bad] at ex
   have EX2 := Lib.hid ex
   clear ex hk hb
   go_wp2_with fail
   rw [EX2.out]
   exact ⟨rfl, rfl, HB.out⟩
  rw [hk] at hE
  obtain ⟨⟨v, he, hv, hvl⟩, hp, hb⟩ := hE
  subst he
  obtain ⟨A5, c5, rfl⟩ := hv.sl
  have RES_5 := Lib.hid (RES_4.out.but hb (by have := HR.out; omega))
  clear RES_4
  have SLE_5 := Lib.hid (Nat.le_trans SLE_4.out hb.size)
  clear SLE_4
  have L2_5 := Lib.hid (L2_4.out.step (hb.stay (by have := HR.out; omega)))
  clear L2_4
  have L5_5 := Lib.hid (hv.lo SLB5.out)
  have HL5 := Lib.hid hvl
  have LO5 := Lib.hid hv
  have P_5 := Lib.hid hp
  have B_5 := Lib.hid (B_4.out.trans hb)
  clear hp hb hv hvl P_4 B_4
  have NZ := Lib.hid (show 0 < a5.length from M.list_pos hk)
  have ex := EX.out
  rw [hk] at ex
  try rw [M.Res.bind_ok] at ex
  clear EX
  have EX := Lib.hid ex
  clear ex hk
  obtain ⟨g2, c2, l2, e2, V2, N2, E2⟩ := LO5.out.src (base := w.heap.size + 1) (g0 := (Value.slice (some ⟨b2, 0, none⟩) 1 1).ownBlock) SLB5.out (fun k e => (OWN.out k e).2) NZ.out
  have V3 := Lib.hid V2
  have N3 := Lib.hid N2
  have E3 := Lib.hid E2
  injection e2 with e2a _ e2c
  subst e2a e2c
  clear V2 N2 E2
  go_wp2_with (at_builtin; refine wpList_append_nodes rfl _ _ rfl (w.heap.size + 1) (.slice (some ⟨b2, 0, none⟩) 1 1) [a1] a5 l2 ⟨g2, 0, none⟩ a5.length c5 rfl rfl L2_5.out V3.out N3.out E3.out NZ.out ?d4 ?d5 ?_)
  case d4 => have := HL5.out; simp; omega
  case d5 => exact SLE_5.out
  intro g4 cp4 w4 hrow4 hgrow4 hg4 hb4
  have OW4 := L2_5.out.own
  obtain ⟨aa, eaa⟩ : ∃ aa, aa = a1 :: a5 := ⟨_, rfl⟩
  have hln : 1 + a5.length = aa.length := by rw [eaa]; simp; omega
  have hrow4 : RowN (w.heap.size + 1) w4 (.slice (some ⟨g4, 0, none⟩) aa.length cp4) aa := by rw [<- hln, eaa]; exact hrow4
  rw [hln]
  have ex := EX.out
  rw [<- eaa] at ex
  clear EX
  have EX := Lib.hid ex
  have HLz := Lib.hid (show aa.length <= 200000 by rw [<- hln]; have := HL5.out; simp; omega)
  clear ex eaa hln
  have Q_6 := Lib.hid (P_5.out.grown hgrow4 fun k e => by have := (OW4 k e).1; have := HR.out; omega)
  have B_6 := Lib.hid (B_5.out.grown hgrow4 fun k e => by have := (OW4 k e).1; omega)
  have RES_6 := Lib.hid (RES_5.out.keep (hgrow4.block _ RES_5.out.lt (fun e => by have := (OW4 _ e.symm).1; omega)))
  have SLE_6 := Lib.hid (Nat.le_trans SLE_5.out hgrow4.size)
  have L6_6 := Lib.hid hrow4
  clear hrow4 hgrow4 hg4 hb4 OW4 P_5 B_5 RES_5 SLE_5 L2_5 L5_5 V3 N3 E3 LO5
  go_wp2_with fail
  have C7 := Lib.hid (expect_any Q_6.out ⟨#[59]⟩ (s := [59]) rfl ⟨by decide, by decide⟩)
  (with_reducible refine (C7.out).mono ?_)
  intro e w7 hE
  rcases M.Res.em (M.take [59] r5) with hk | ⟨r7, hk⟩ | ⟨a7, r7, hk⟩
  ·exact absurd (EX.out.trans (by rw [hk]; rfl)) HX.out
  ·rw [hk] at hE
   obtain ⟨he, hb⟩ := hE
   unfold pv at he
   subst he
   have HB := Lib.hid (B_6.out.trans hb)
   have ex := EX.out
   rw [hk] at ex
   try rw [M.Res.bind_bad] at ex
   have EX2 := Lib.hid ex
   clear ex hk hb
   go_wp2_with fail
   rw [EX2.out]
   exact ⟨rfl, rfl, HB.out⟩
  rw [hk] at hE
  obtain ⟨he, hp, hb⟩ := hE
  unfold vUnit at he
  subst he
  have RES_7 := Lib.hid (RES_6.out.but hb (by have := HR.out; omega))
  clear RES_6
  have SLE_7 := Lib.hid (Nat.le_trans SLE_6.out hb.size)
  clear SLE_6
  have L6_7 := Lib.hid (L6_6.out.step (hb.stay (by have := HR.out; omega)))
  clear L6_6
  have P_7 := Lib.hid hp
  have B_7 := Lib.hid (B_6.out.trans hb)
  clear hp hb Q_6 B_6
  have ex := EX.out
  rw [hk] at ex
  try rw [M.Res.bind_ok] at ex
  clear EX
  have EX := Lib.hid ex
  clear ex hk
  obtain ⟨q0, q1, q2, q3⟩ := RES_7.out.c
  obtain ⟨z0, z1, z2, z3⟩ := RES_7.out.fz
  have lr0 : w.heap.size < w7.heap.size := RES_7.out.lt
  go_wp2_with fail
  refine bodyPost_ret (v := .agg #[.int .i64 8, .string ⟨#[]⟩, .int .u64 0, .slice (some ⟨g4, 0, none⟩) aa.length cp4]) (by simp [results, Tryz.results112, go_sem, q0, q1, q2, q3]) rfl ?_
  rw [EX.out]
  exact tree_end _ _ _ (y := ⟨8, ⟨#[]⟩, 0, (some ⟨g4, 0, none⟩), aa.length, cp4⟩) HR.out.2.1 B_7.out (NodeN.make (k := 8) (T := ⟨#[]⟩) (n := 0) (L6_7.out.kids (by have := HLz.out; omega)) rfl ⟨by omega, by omega, by decide⟩) P_7.out
end Go.Proofs.YtngpedcihajepaaGreatDoor
namespace Go.Proofs.YtngpedcihajepaaGreatDoor
open Go.RowKit
variable {hi R N : Nat}
theorem procedure_any {p : List M.Tok -> M.Res M.Tree} (HE : PC hi R N vTree 147 p) {it : List M.Tok -> M.Res M.Tree} (HI : PC hi R N vTree 64 it) (hI : ∀ l, M.Sh l.length (it l)) (c : Nat) (hit : 0 < c -> ∀ l, M.itemS l = false -> it l = .bad l) : PC hi R N vTree 113 (M.pDef p it c) := by
 intro w ts h hne
 have h := h
 have hud := hud9
 have HR := Lib.hid (show R < hi /\ hi <= w.heap.size /\ ts.length <= 20000 from ⟨h.1, h.2.1, by obtain ⟨_, _, _, _, _, _, _, _, _, _, _, h9, _⟩ := h; exact h9⟩)
 obtain ⟨X, eX⟩ : ∃ X, X = M.pDef p it c ts := ⟨_, rfl⟩
 rw [<- eX] at hne ⊢
 unfold M.pDef at eX
 have EX := Lib.hid eX
 have HX := Lib.hid hne
 clear eX hne
 have P_0 := Lib.hid h
 have B_0 := Lib.hid (But.refl R w)
 clear h
 go_enter Tryz.func113, Tryz.ntmps113
 go_wp2_with fail
 obtain ⟨w0, ew0⟩ : ∃ w0, w0 = w.alloc (.cells #[.int .i64 0, .string ⟨#[]⟩, .int .u64 0, .slice none 0 0] 25) := ⟨_, rfl⟩
 rw [<- ew0]
 have RES_0 := Lib.hid (show Box9 w0 w.heap.size V9.no by rw [ew0]; exact Box9.start w V9.no)
 have SLE_0 := Lib.hid (show w.heap.size + 1 <= w0.heap.size by rw [ew0]; simp)
 have P_00 := Lib.hid (show PS hi R N w0 ts by rw [ew0]; exact P_0.out.alloc _)
 have B_00 := Lib.hid (show But R w w0 by rw [ew0]; exact B_0.out.alloc _)
 clear ew0 P_0 B_0
 have C1 := Lib.hid (name_any w0 ts P_00.out (fun h => HX.out (EX.out.trans (by rw [h]; rfl))))
 (with_reducible refine (C1.out).mono ?_)
 intro e w1 hE
 rcases M.Res.em (M.pName ts) with hk | ⟨r1, hk⟩ | ⟨a1, r1, hk⟩
 ·exact absurd (EX.out.trans (by rw [hk]; rfl)) HX.out
 ·rw [hk] at hE
  obtain ⟨he, hb⟩ := hE
  unfold pv at he
  subst he
  have HB := Lib.hid (B_00.out.trans hb)
  have ex := EX.out
  rw [hk] at ex
  try rw [M.Res.bind_bad] at ex
  have EX2 := Lib.hid ex
  clear ex hk hb
  go_wp2_with fail
  rw [EX2.out]
  exact ⟨rfl, rfl, HB.out⟩
 rw [hk] at hE
 obtain ⟨⟨T1, he, hT, hTs⟩, hp, hb⟩ := hE
 subst he
 have HT1 := Lib.hid hT
 have HTs1 := Lib.hid hTs
 clear hT hTs
 have RES_1 := Lib.hid (RES_0.out.but hb (by have := HR.out; omega))
 clear RES_0
 have SLE_1 := Lib.hid (Nat.le_trans SLE_0.out hb.size)
 clear SLE_0
 have P_1 := Lib.hid hp
 have B_1 := Lib.hid (B_00.out.trans hb)
 clear hp hb P_00 B_00
 have ex := EX.out
 rw [hk] at ex
 try rw [M.Res.bind_ok] at ex
 clear EX
 have EX := Lib.hid ex
 clear ex hk
 have ex := EX.out
 rw [show ∀ (F : List M.Tree -> List M.Tok -> M.Res M.Tree), ((M.take [40] r1).bind fun _ r => (M.pArgs M.pArg c r).bind F) = (M.pBrack M.pArg c r1).bind F from fun F => by unfold M.pBrack; rw [M.Res.bind_assoc]] at ex
 clear EX
 have EX := Lib.hid ex
 clear ex
 go_wp2_with fail
 have C2 := Lib.hid (bracketed_any parameter_any (fun args w => Tryz.call152 args w) (fun l a r e => by have := M.arg_sh l; rw [e] at this; exact Nat.le_of_lt this) c w1 r1 P_1.out (fun h => HX.out (EX.out.trans (by rw [h]; rfl))))
 have SLB2 := Lib.hid (SLE_1.out)
 (with_reducible refine (C2.out).mono ?_)
 intro e w2 hE
 rcases M.Res.em (M.pBrack M.pArg c r1) with hk | ⟨r2, hk⟩ | ⟨a2, r2, hk⟩
 ·exact absurd (EX.out.trans (by rw [hk]; rfl)) HX.out
 ·rw [hk] at hE
  obtain ⟨he, hb⟩ := hE
  unfold pv at he
  subst he
  have HB := Lib.hid (B_1.out.trans hb)
  have ex := EX.out
  rw [hk] at ex
  try rw [M.Res.bind_bad] at ex
  have EX2 := Lib.hid ex
  clear ex hk hb
  go_wp2_with fail
  rw [EX2.out]
  exact ⟨rfl, rfl, HB.out⟩
 rw [hk] at hE
 obtain ⟨⟨v, he, hv, hvl⟩, hp, hb⟩ := hE
 subst he
 obtain ⟨A2, c2, rfl⟩ := hv.sl
 have RES_2 := Lib.hid (RES_1.out.but hb (by have := HR.out; omega))
 clear RES_1
 have SLE_2 := Lib.hid (Nat.le_trans SLE_1.out hb.size)
 clear SLE_1
 have L2_2 := Lib.hid (hv.lo SLB2.out)
 have HL2 := Lib.hid hvl
 have LO2 := Lib.hid hv
 have P_2 := Lib.hid hp
 have B_2 := Lib.hid (B_1.out.trans hb)
 clear hp hb hv hvl P_1 B_1
 have ex := EX.out
 rw [hk] at ex
 try rw [M.Res.bind_ok] at ex
 clear EX
 have EX := Lib.hid ex
 clear ex hk
 go_wp2_with fail
 have C3 := Lib.hid (expect_any P_2.out ⟨#[123]⟩ (s := [123]) rfl ⟨by decide, by decide⟩)
 (with_reducible refine (C3.out).mono ?_)
 intro e w3 hE
 rcases M.Res.em (M.take [123] r2) with hk | ⟨r3, hk⟩ | ⟨a3, r3, hk⟩
 ·exact absurd (EX.out.trans (by rw [hk]; rfl)) HX.out
 ·rw [hk] at hE
  obtain ⟨he, hb⟩ := hE
  unfold pv at he
  subst he
  have HB := Lib.hid (B_2.out.trans hb)
  have ex := EX.out
  rw [hk] at ex
  try rw [M.Res.bind_bad] at ex
  have EX2 := Lib.hid ex
  clear ex hk hb
  go_wp2_with fail
  rw [EX2.out]
  exact ⟨rfl, rfl, HB.out⟩
 rw [hk] at hE
 obtain ⟨he, hp, hb⟩ := hE
 unfold vUnit at he
 subst he
 have RES_3 := Lib.hid (RES_2.out.but hb (by have := HR.out; omega))
 clear RES_2
 have SLE_3 := Lib.hid (Nat.le_trans SLE_2.out hb.size)
 clear SLE_2
 have L2_3 := Lib.hid (L2_2.out.step (hb.stay (by have := HR.out; omega)))
 clear L2_2
 have P_3 := Lib.hid hp
 have B_3 := Lib.hid (B_2.out.trans hb)
 clear hp hb P_2 B_2
 have ex := EX.out
 rw [hk] at ex
 try rw [M.Res.bind_ok] at ex
 clear EX
 have EX := Lib.hid ex
 clear ex hk
 have ex := EX.out
 rw [show ∀ (F : List M.Tree -> List M.Tok -> M.Res M.Tree), ((M.pItems it c [] r3).bind fun k r => (M.take [114, 101, 116, 117, 114, 110] r).bind fun _ r => F k r) = ((M.pItems it c [] r3).bind fun k r => (M.take [114, 101, 116, 117, 114, 110] r).bind fun _ r => M.Res.ok k r).bind F from fun F => by simp only [M.Res.bind_assoc, M.Res.bind_ok]] at ex
 clear EX
 have EX := Lib.hid ex
 clear ex
 go_wp2_with fail
 have C4 := Lib.hid (items_any HI hI c hit ⟨#[114, 101, 116, 117, 114, 110]⟩ (s := [114, 101, 116, 117, 114, 110]) rfl (.inr rfl) w3 r3 P_3.out (fun h => HX.out (EX.out.trans (by rw [h]; rfl))))
 have MLT4 := Lib.hid (L2_3.out.own)
 have SLB4 := Lib.hid (SLE_3.out)
 (with_reducible refine (C4.out).mono ?_)
 intro e w4 hE
 rcases M.Res.em (((M.pItems it c [] r3).bind fun k r => (M.take [114, 101, 116, 117, 114, 110] r).bind fun _ r => M.Res.ok k r)) with hk | ⟨r4, hk⟩ | ⟨a4, r4, hk⟩
 ·exact absurd (EX.out.trans (by rw [hk]; rfl)) HX.out
 ·rw [hk] at hE
  obtain ⟨he, hb⟩ := hE
  unfold pv at he
  subst he
  have HB := Lib.hid (B_3.out.trans hb)
  have ex := EX.out
  rw [hk] at ex
  try rw [M.Res.bind_bad] at ex
  have EX2 := Lib.hid ex
  clear ex hk hb
  go_wp2_with fail
  rw [EX2.out]
  exact ⟨rfl, rfl, HB.out⟩
 rw [hk] at hE
 obtain ⟨⟨v, he, hv, hvl⟩, hp, hb⟩ := hE
 subst he
 obtain ⟨A4, c4, rfl⟩ := hv.sl
 have RES_4 := Lib.hid (RES_3.out.but hb (by have := HR.out; omega))
 clear RES_3
 have SLE_4 := Lib.hid (Nat.le_trans SLE_3.out hb.size)
 clear SLE_3
 have L2_4 := Lib.hid (L2_3.out.step (hb.stay (by have := HR.out; omega)))
 clear L2_3
 have L4_4 := Lib.hid (hv.lo SLB4.out)
 have HL4 := Lib.hid hvl
 have LO4 := Lib.hid hv
 have P_4 := Lib.hid hp
 have B_4 := Lib.hid (B_3.out.trans hb)
 clear hp hb hv hvl P_3 B_3
 have ex := EX.out
 rw [hk] at ex
 try rw [M.Res.bind_ok] at ex
 clear EX
 have EX := Lib.hid ex
 clear ex hk
 have T4_4 := Lib.hid (((NodeN.make (k := 10) (T := ⟨#[]⟩) (n := 0) (LO4.out.kids (by have := HL4.out; omega)) rfl ⟨by omega, by omega, by decide⟩).out (Value.slice A2 a2.length c2).ownBlock fun k e => .inl (MLT4.out k e).2).lo SLB4.out)
 clear L4_4
 go_wp2_with fail
 obtain ⟨v5, ev5⟩ : ∃ v, v = w4.alloc (.cells #[.int .i64 10, .string ⟨#[]⟩, .int .u64 0, .slice A4 a4.length c4] 25) := ⟨_, rfl⟩
 rw [<- ev5]
 have A5 := Lib.hid (show Below w4.heap.size w4 v5 by rw [ev5]; exact (Below.refl _ _).alloc (Nat.le_refl _) _)
 obtain ⟨b5, eb5⟩ : ∃ b, b = w4.heap.size := ⟨_, rfl⟩
 have X5 := Lib.hid (show Box9 v5 b5 ⟨10, ⟨#[]⟩, 0, A4, a4.length, c4⟩ by rw [ev5, eb5]; exact Box9.start _ ⟨10, ⟨#[]⟩, 0, A4, a4.length, c4⟩)
 have LBX5 := Lib.hid (show hi <= b5 by rw [eb5]; exact P_4.out.2.1)
 have LWX5 := Lib.hid (show w.heap.size < b5 by rw [eb5]; exact SLE_4.out)
 rw [<- eb5]
 have RES_5 := Lib.hid (RES_4.out.below A5.out)
 clear RES_4
 have SLE_5 := Lib.hid (Nat.le_trans SLE_4.out A5.out.size)
 clear SLE_4
 have T4_5 := Lib.hid (T4_4.out.step (Below.stay A5.out))
 clear T4_4
 have L2_5 := Lib.hid (L2_4.out.step (Below.stay A5.out))
 clear L2_4
 have P_5 := Lib.hid (P_4.out.below A5.out)
 clear P_4
 have B_5 := Lib.hid (B_4.out.below A5.out)
 clear B_4
 clear ev5 eb5 A5
 have C6 := Lib.hid (HE v5 r4 P_5.out (fun h => HX.out (EX.out.trans (by rw [h]; rfl))))
 have MLT6 := Lib.hid (L2_5.out.own)
 have SLB6 := Lib.hid (SLE_5.out)
 (with_reducible refine (C6.out).mono ?_)
 intro e w6 hE
 rcases M.Res.em (p r4) with hk | ⟨r6, hk⟩ | ⟨a6, r6, hk⟩
 ·exact absurd (EX.out.trans (by rw [hk]; rfl)) HX.out
 ·rw [hk] at hE
  obtain ⟨he, hb⟩ := hE
  unfold pv at he
  subst he
  have HB := Lib.hid (B_5.out.trans hb)
  have ex := EX.out
  rw [hk] at ex
  try rw [M.Res.bind_bad] at ex
  have EX2 := Lib.hid ex
  clear ex hk hb
  go_wp2_with fail
  rw [EX2.out]
  exact ⟨rfl, rfl, HB.out⟩
 rw [hk] at hE
 obtain ⟨⟨v, he, hv⟩, hp, hb⟩ := hE
 subst he
 obtain ⟨x6, rfl⟩ := hv.v9e
 have RES_6 := Lib.hid (RES_5.out.but hb (by have := HR.out; omega))
 clear RES_5
 have SLE_6 := Lib.hid (Nat.le_trans SLE_5.out hb.size)
 clear SLE_5
 have T4_6 := Lib.hid (T4_5.out.step (hb.stay (by have := HR.out; omega)))
 clear T4_5
 have L2_6 := Lib.hid (L2_5.out.step (hb.stay (by have := HR.out; omega)))
 clear L2_5
 have X5_6 := Lib.hid (X5.out.but hb (by have := HR.out; have := LBX5.out; omega))
 clear X5
 have T6_6 := Lib.hid ((hv.out (Value.slice A2 a2.length c2).ownBlock fun k e => .inl (MLT6.out k e).2).lo SLB6.out)
 have P_6 := Lib.hid hp
 have B_6 := Lib.hid (B_5.out.trans hb)
 clear hp hb hv P_5 B_5
 have ex := EX.out
 rw [hk] at ex
 try rw [M.Res.bind_ok] at ex
 clear EX
 have EX := Lib.hid ex
 clear ex hk
 go_wp2_with fail
 obtain ⟨v7, ev7⟩ : ∃ v, v = w6.alloc (.cells #[.int .i64 x6.kind, .string x6.text, .int .u64 (x6.num : Nat), .slice x6.ka x6.kn x6.kc] 25) := ⟨_, rfl⟩
 rw [<- ev7]
 have A7 := Lib.hid (show Below w6.heap.size w6 v7 by rw [ev7]; exact (Below.refl _ _).alloc (Nat.le_refl _) _)
 obtain ⟨b7, eb7⟩ : ∃ b, b = w6.heap.size := ⟨_, rfl⟩
 have X7 := Lib.hid (show Box9 v7 b7 x6 by rw [ev7, eb7]; exact Box9.start _ x6)
 have LBX7 := Lib.hid (show hi <= b7 by rw [eb7]; exact P_6.out.2.1)
 have LWX7 := Lib.hid (show w.heap.size < b7 by rw [eb7]; exact SLE_6.out)
 rw [<- eb7]
 have RES_7 := Lib.hid (RES_6.out.below A7.out)
 clear RES_6
 have SLE_7 := Lib.hid (Nat.le_trans SLE_6.out A7.out.size)
 clear SLE_6
 have T4_7 := Lib.hid (T4_6.out.step (Below.stay A7.out))
 clear T4_6
 have T6_7 := Lib.hid (T6_6.out.step (Below.stay A7.out))
 clear T6_6
 have L2_7 := Lib.hid (L2_6.out.step (Below.stay A7.out))
 clear L2_6
 have X5_7 := Lib.hid (X5_6.out.below A7.out)
 clear X5_6
 have P_7 := Lib.hid (P_6.out.below A7.out)
 clear P_6
 have B_7 := Lib.hid (B_6.out.below A7.out)
 clear B_6
 clear ev7 eb7 A7
 have C8 := Lib.hid (expect_any P_7.out ⟨#[59]⟩ (s := [59]) rfl ⟨by decide, by decide⟩)
 (with_reducible refine (C8.out).mono ?_)
 intro e w8 hE
 rcases M.Res.em (M.take [59] r6) with hk | ⟨r8, hk⟩ | ⟨a8, r8, hk⟩
 ·exact absurd (EX.out.trans (by rw [hk]; rfl)) HX.out
 ·rw [hk] at hE
  obtain ⟨he, hb⟩ := hE
  unfold pv at he
  subst he
  have HB := Lib.hid (B_7.out.trans hb)
  have ex := EX.out
  rw [hk] at ex
  try rw [M.Res.bind_bad] at ex
  have EX2 := Lib.hid ex
  clear ex hk hb
  go_wp2_with fail
  rw [EX2.out]
  exact ⟨rfl, rfl, HB.out⟩
 rw [hk] at hE
 obtain ⟨he, hp, hb⟩ := hE
 unfold vUnit at he
 subst he
 have RES_8 := Lib.hid (RES_7.out.but hb (by have := HR.out; omega))
 clear RES_7
 have SLE_8 := Lib.hid (Nat.le_trans SLE_7.out hb.size)
 clear SLE_7
 have T4_8 := Lib.hid (T4_7.out.step (hb.stay (by have := HR.out; omega)))
 clear T4_7
 have T6_8 := Lib.hid (T6_7.out.step (hb.stay (by have := HR.out; omega)))
 clear T6_7
 have L2_8 := Lib.hid (L2_7.out.step (hb.stay (by have := HR.out; omega)))
 clear L2_7
 have X5_8 := Lib.hid (X5_7.out.but hb (by have := HR.out; have := LBX5.out; omega))
 clear X5_7
 have X7_8 := Lib.hid (X7.out.but hb (by have := HR.out; have := LBX7.out; omega))
 clear X7
 have P_8 := Lib.hid hp
 have B_8 := Lib.hid (B_7.out.trans hb)
 clear hp hb P_7 B_7
 have ex := EX.out
 rw [hk] at ex
 try rw [M.Res.bind_ok] at ex
 clear EX
 have EX := Lib.hid ex
 clear ex hk
 go_wp2_with fail
 have C9 := Lib.hid (expect_any P_8.out ⟨#[125]⟩ (s := [125]) rfl ⟨by decide, by decide⟩)
 (with_reducible refine (C9.out).mono ?_)
 intro e w9 hE
 rcases M.Res.em (M.take [125] r8) with hk | ⟨r9, hk⟩ | ⟨a9, r9, hk⟩
 ·exact absurd (EX.out.trans (by rw [hk]; rfl)) HX.out
 ·rw [hk] at hE
  obtain ⟨he, hb⟩ := hE
  unfold pv at he
  subst he
  have HB := Lib.hid (B_8.out.trans hb)
  have ex := EX.out
  rw [hk] at ex
  try rw [M.Res.bind_bad] at ex
  have EX2 := Lib.hid ex
  clear ex hk hb
  go_wp2_with fail
  rw [EX2.out]
  exact ⟨rfl, rfl, HB.out⟩
 rw [hk] at hE
 obtain ⟨he, hp, hb⟩ := hE
 unfold vUnit at he
 subst he
 have RES_9 := Lib.hid (RES_8.out.but hb (by have := HR.out; omega))
 clear RES_8
 have SLE_9 := Lib.hid (Nat.le_trans SLE_8.out hb.size)
 clear SLE_8
 have T4_9 := Lib.hid (T4_8.out.step (hb.stay (by have := HR.out; omega)))
 clear T4_8
 have T6_9 := Lib.hid (T6_8.out.step (hb.stay (by have := HR.out; omega)))
 clear T6_8
 have L2_9 := Lib.hid (L2_8.out.step (hb.stay (by have := HR.out; omega)))
 clear L2_8
 have X5_9 := Lib.hid (X5_8.out.but hb (by have := HR.out; have := LBX5.out; omega))
 clear X5_8
 have X7_9 := Lib.hid (X7_8.out.but hb (by have := HR.out; have := LBX7.out; omega))
 clear X7_8
 have P_9 := Lib.hid hp
 have B_9 := Lib.hid (B_8.out.trans hb)
 clear hp hb P_8 B_8
 have ex := EX.out
 rw [hk] at ex
 try rw [M.Res.bind_ok] at ex
 clear EX
 have EX := Lib.hid ex
 clear ex hk
 have AW := Lib.hid (show Below w9.heap.size w9 (w9.alloc (.cells #[.int .i64 10, .string ⟨#[]⟩, .int .u64 0, .slice A4 a4.length c4, .int .i64 x6.kind, .string x6.text, .int .u64 (x6.num : Nat), .slice x6.ka x6.kn x6.kc] 25)) from (Below.refl _ _).alloc (Nat.le_refl _) _)
 have ROWW := Lib.hid (L2_9.out.step (Below.stay AW.out))
 have V1 := Lib.hid (T4_9.out.step (Below.stay AW.out))
 have V2 := Lib.hid (T6_9.out.step (Below.stay AW.out))
 have NW := Lib.hid (show ∀ j u, (nodeCells [⟨10, ⟨#[]⟩, 0, A4, a4.length, c4⟩, x6])[j]? = some u -> (w9.alloc (.cells #[.int .i64 10, .string ⟨#[]⟩, .int .u64 0, .slice A4 a4.length c4, .int .i64 x6.kind, .string x6.text, .int .u64 (x6.num : Nat), .slice x6.ka x6.kn x6.kc] 25)).cell? ((⟨w9.heap.size, 0, none⟩ : Addr).add j) = some u from new_cells (cells := #[.int .i64 10, .string ⟨#[]⟩, .int .u64 0, .slice A4 a4.length c4, .int .i64 x6.kind, .string x6.text, .int .u64 (x6.num : Nat), .slice x6.ka x6.kn x6.kc]) (alloc_new _ _ _) rfl)
 have PW := Lib.hid (P_9.out.below AW.out)
 have BW := Lib.hid (B_9.out.below AW.out)
 have RW := Lib.hid (RES_9.out.below AW.out)
 have SW := Lib.hid (Nat.le_trans SLE_9.out AW.out.size)
 have OW := Lib.hid ROWW.out.own
 obtain ⟨kb50, kb51, kb52, kb53⟩ := X5_9.out.c
 have lb50 : b5 < w9.heap.size := X5_9.out.lt
 have lb51 : b5 < w9.heap.size + 1 := by have := X5_9.out.lt; omega
 obtain ⟨kb70, kb71, kb72, kb73⟩ := X7_9.out.c
 have lb70 : b7 < w9.heap.size := X7_9.out.lt
 have lb71 : b7 < w9.heap.size + 1 := by have := X7_9.out.lt; omega
 obtain ⟨q0, q1, q2, q3⟩ := RES_9.out.c
 obtain ⟨z0, z1, z2, z3⟩ := RES_9.out.fz
 have lr0 : w.heap.size < w9.heap.size := RES_9.out.lt
 have lr1 : w.heap.size < w9.heap.size + 1 := by have := RES_9.out.lt; omega
 clear q0 q1 q2 q3 z0 z1 z2 z3
 go_wp2_with (at_builtin; refine wpList_append_nodes rfl _ _ rfl (w.heap.size + 1) (.slice A2 a2.length c2) a2 [M.Tree.node 10 [] 0 a4, a6] [⟨10, ⟨#[]⟩, 0, A4, a4.length, c4⟩, x6] ⟨w9.heap.size, 0, none⟩ 2 2 rfl rfl ROWW.out (.cons V1.out (.cons V2.out .nil)) NW.out rfl (by decide) ?d4 ?d5 ?_)
 case d4 => have := HL2.out; omega
 case d5 => exact SW.out
 intro g4 cp4 w4 hrow4 hgrow4 hg4 hb4
 have Q4 := Lib.hid (PW.out.grown hgrow4 fun k e => by have := (OW.out k e).1; have := HR.out; omega)
 have B4 := Lib.hid (BW.out.grown hgrow4 fun k e => by have := (OW.out k e).1; omega)
 have RES4 := Lib.hid (RW.out.keep (hgrow4.block _ RW.out.lt (fun e => by have := (OW.out _ e.symm).1; omega)))
 obtain ⟨aa, eaa⟩ : ∃ aa, aa = a2 ++ [M.Tree.node 10 [] 0 a4, a6] := ⟨_, rfl⟩
 have hln : a2.length + 2 = aa.length := by rw [eaa]; simp
 have hrow4 : RowN (w.heap.size + 1) w4 (.slice (some ⟨g4, 0, none⟩) aa.length cp4) aa := by rw [<- hln, eaa]; exact hrow4
 rw [hln]
 have ex := EX.out
 rw [<- eaa] at ex
 clear EX
 have EX := Lib.hid ex
 have HLz := Lib.hid (show aa.length <= 200000 by rw [<- hln]; have := HL2.out; omega)
 have R4 := Lib.hid hrow4
 clear ex eaa hln hrow4 hgrow4 hg4 hb4
 obtain ⟨q0, q1, q2, q3⟩ := RES4.out.c
 obtain ⟨z0, z1, z2, z3⟩ := RES4.out.fz
 have lr0 : w.heap.size < w4.heap.size := RES4.out.lt
 go_wp2_with fail
 refine bodyPost_ret (v := .agg #[.int .i64 9, .string T1, .int .u64 0, .slice (some ⟨g4, 0, none⟩) aa.length cp4]) (by simp [results, Tryz.results113, go_sem, q0, q1, q2, q3]) rfl ?_
 rw [EX.out]
 exact tree_end _ _ _ (y := ⟨9, T1, 0, (some ⟨g4, 0, none⟩), aa.length, cp4⟩) HR.out.2.1 B4.out (NodeN.make (k := 9) (T := T1) (n := 0) (R4.out.kids (by have := HLz.out; omega)) HT1.out ⟨by omega, by omega, by have := HTs1.out; omega⟩) Q4.out
end Go.Proofs.YtngpedcihajepaaGreatDoor
namespace Go.Proofs.YtngpedcihajepaaGreatDoor
open Go.RowKit
variable {hi R N : Nat}
theorem item_any {p : List M.Tok -> M.Res M.Tree} (HE : PC hi R N vTree 147 p) {it : List M.Tok -> M.Res M.Tree} (HI : PC hi R N vTree 64 it) (hI : ∀ l, M.Sh l.length (it l)) (c : Nat) (hit : 0 < c -> ∀ l, M.itemS l = false -> it l = .bad l) : PC hi R N vTree 64 (M.itemB p it c) := by
 intro w ts h hne
 have h := h
 have hud := hud9
 have HR := Lib.hid (show R < hi /\ hi <= w.heap.size /\ ts.length <= 20000 from ⟨h.1, h.2.1, by obtain ⟨_, _, _, _, _, _, _, _, _, _, _, h9, _⟩ := h; exact h9⟩)
 obtain ⟨X, eX⟩ : ∃ X, X = M.itemB p it c ts := ⟨_, rfl⟩
 rw [<- eX] at hne ⊢
 unfold M.itemB at eX
 have EX := Lib.hid eX
 have HX := Lib.hid hne
 clear eX hne
 have P_0 := Lib.hid h
 have B_0 := Lib.hid (But.refl R w)
 clear h
 go_enter Tryz.func64, Tryz.ntmps64
 go_wp2_with fail
 obtain ⟨w0, ew0⟩ : ∃ w0, w0 = w.alloc (.cells #[.int .i64 0, .string ⟨#[]⟩, .int .u64 0, .slice none 0 0] 25) := ⟨_, rfl⟩
 rw [<- ew0]
 have RES_0 := Lib.hid (show Box9 w0 w.heap.size V9.no by rw [ew0]; exact Box9.start w V9.no)
 have SLE_0 := Lib.hid (show w.heap.size + 1 <= w0.heap.size by rw [ew0]; simp)
 have P_00 := Lib.hid (show PS hi R N w0 ts by rw [ew0]; exact P_0.out.alloc _)
 have B_00 := Lib.hid (show But R w w0 by rw [ew0]; exact B_0.out.alloc _)
 clear ew0 P_0 B_0
 have C1 := Lib.hid (accept_word P_00.out ⟨#[105, 110]⟩ (s := [105, 110]) rfl ⟨by decide, by decide⟩)
 (with_reducible refine (C1.out).mono ?_)
 rintro e w1 ⟨he, hp, hb⟩
 have RES_1 := Lib.hid (RES_0.out.but hb (by have := HR.out; omega))
 clear RES_0
 have SLE_1 := Lib.hid (Nat.le_trans SLE_0.out hb.size)
 clear SLE_0
 have B_1 := Lib.hid (B_00.out.trans hb)
 clear hb B_00
 by_cases hc : M.isS [105, 110] ts = true
 ·rw [hc] at he
  rw [if_pos hc] at hp
  subst he
  have ex := EX.out
  rw [if_pos hc] at ex
  try rw [M.Res.bind_ok] at ex
  clear EX
  have EX := Lib.hid ex
  have P_1 := Lib.hid hp
  have HC1 := Lib.hid hc
  clear ex hp hc P_00
  go_wp2_with fail
  have C2 := Lib.hid (in_any w1 (ts.tail) P_1.out (fun h => HX.out (EX.out.trans (by rw [h]; try rfl))))
  have SLB2 := Lib.hid (SLE_1.out)
  (with_reducible refine (C2.out).mono ?_)
  intro e w2 hE
  rcases M.Res.em (M.pIn (ts.tail)) with hk | ⟨r2, hk⟩ | ⟨a2, r2, hk⟩
  ·exact absurd (EX.out.trans (by rw [hk]; try rfl)) HX.out
  ·rw [hk] at hE
   obtain ⟨he, hb⟩ := hE
   unfold pv at he
   subst he
   have HB := Lib.hid (B_1.out.trans hb)
   have ex := EX.out
   rw [hk] at ex
   try rw [M.Res.bind_bad] at ex
   have EX2 := Lib.hid ex
   clear ex hk hb
   go_wp2_with fail
   rw [EX2.out]
   exact ⟨rfl, rfl, HB.out⟩
  rw [hk] at hE
  obtain ⟨⟨v, he, hv⟩, hp, hb⟩ := hE
  subst he
  obtain ⟨x2, rfl⟩ := hv.v9e
  have RES_2 := Lib.hid (RES_1.out.but hb (by have := HR.out; omega))
  clear RES_1
  have SLE_2 := Lib.hid (Nat.le_trans SLE_1.out hb.size)
  clear SLE_1
  have T2_2 := Lib.hid (hv.lo SLB2.out)
  have P_2 := Lib.hid hp
  have B_2 := Lib.hid (B_1.out.trans hb)
  clear hp hb hv P_1 B_1
  have ex := EX.out
  rw [hk] at ex
  try rw [M.Res.bind_ok] at ex
  clear EX
  have EX := Lib.hid ex
  clear ex hk
  obtain ⟨q0, q1, q2, q3⟩ := RES_2.out.c
  obtain ⟨z0, z1, z2, z3⟩ := RES_2.out.fz
  have lr0 : w.heap.size < w2.heap.size := RES_2.out.lt
  go_wp2_with fail
  refine bodyPost_ret (v := .agg #[.int .i64 x2.kind, .string x2.text, .int .u64 (x2.num : Nat), .slice x2.ka x2.kn x2.kc]) (by simp [results, Tryz.results64, go_sem, q0, q1, q2, q3]) rfl ?_
  rw [EX.out]
  exact tree_end _ _ _ (y := x2) HR.out.2.1 B_2.out T2_2.out P_2.out
 ·rw [if_neg hc] at hp
  rw [show M.isS [105, 110] ts = false by simpa using hc] at he
  subst he
  have ex := EX.out
  rw [if_neg hc] at ex
  clear EX
  have EX := Lib.hid ex
  have P_1 := Lib.hid hp
  have HC1 := Lib.hid hc
  clear ex hp hc P_00
  go_wp2_with fail
  have C2 := Lib.hid (accept_word P_1.out ⟨#[108, 101, 116]⟩ (s := [108, 101, 116]) rfl ⟨by decide, by decide⟩)
  (with_reducible refine (C2.out).mono ?_)
  rintro e w2 ⟨he, hp, hb⟩
  have RES_2 := Lib.hid (RES_1.out.but hb (by have := HR.out; omega))
  clear RES_1
  have SLE_2 := Lib.hid (Nat.le_trans SLE_1.out hb.size)
  clear SLE_1
  have B_2 := Lib.hid (B_1.out.trans hb)
  clear hb B_1
  by_cases hc : M.isS [108, 101, 116] ts = true
  ·rw [hc] at he
   rw [if_pos hc] at hp
   subst he
   have ex := EX.out
   rw [if_pos hc] at ex
   try rw [M.Res.bind_ok] at ex
   clear EX
   have EX := Lib.hid ex
   have P_2 := Lib.hid hp
   have HC2 := Lib.hid hc
   clear ex hp hc P_1
   go_wp2_with fail
   have C3 := Lib.hid ((let_any HE) w2 (ts.tail) P_2.out (fun h => HX.out (EX.out.trans (by rw [h]; try rfl))))
   have SLB3 := Lib.hid (SLE_2.out)
   (with_reducible refine (C3.out).mono ?_)
   intro e w3 hE
   rcases M.Res.em (M.pLet p (ts.tail)) with hk | ⟨r3, hk⟩ | ⟨a3, r3, hk⟩
   ·exact absurd (EX.out.trans (by rw [hk]; try rfl)) HX.out
   ·rw [hk] at hE
    obtain ⟨he, hb⟩ := hE
    unfold pv at he
    subst he
    have HB := Lib.hid (B_2.out.trans hb)
    have ex := EX.out
    rw [hk] at ex
    try rw [M.Res.bind_bad] at ex
    have EX2 := Lib.hid ex
    clear ex hk hb
    go_wp2_with fail
    rw [EX2.out]
    exact ⟨rfl, rfl, HB.out⟩
   rw [hk] at hE
   obtain ⟨⟨v, he, hv⟩, hp, hb⟩ := hE
   subst he
   obtain ⟨x3, rfl⟩ := hv.v9e
   have RES_3 := Lib.hid (RES_2.out.but hb (by have := HR.out; omega))
   clear RES_2
   have SLE_3 := Lib.hid (Nat.le_trans SLE_2.out hb.size)
   clear SLE_2
   have T3_3 := Lib.hid (hv.lo SLB3.out)
   have P_3 := Lib.hid hp
   have B_3 := Lib.hid (B_2.out.trans hb)
   clear hp hb hv P_2 B_2
   have ex := EX.out
   rw [hk] at ex
   try rw [M.Res.bind_ok] at ex
   clear EX
   have EX := Lib.hid ex
   clear ex hk
   obtain ⟨q0, q1, q2, q3⟩ := RES_3.out.c
   obtain ⟨z0, z1, z2, z3⟩ := RES_3.out.fz
   have lr0 : w.heap.size < w3.heap.size := RES_3.out.lt
   go_wp2_with fail
   refine bodyPost_ret (v := .agg #[.int .i64 x3.kind, .string x3.text, .int .u64 (x3.num : Nat), .slice x3.ka x3.kn x3.kc]) (by simp [results, Tryz.results64, go_sem, q0, q1, q2, q3]) rfl ?_
   rw [EX.out]
   exact tree_end _ _ _ (y := x3) HR.out.2.1 B_3.out T3_3.out P_3.out
  ·rw [if_neg hc] at hp
   rw [show M.isS [108, 101, 116] ts = false by simpa using hc] at he
   subst he
   have ex := EX.out
   rw [if_neg hc] at ex
   clear EX
   have EX := Lib.hid ex
   have P_2 := Lib.hid hp
   have HC2 := Lib.hid hc
   clear ex hp hc P_1
   go_wp2_with fail
   have C3 := Lib.hid (accept_word P_2.out ⟨#[105, 102]⟩ (s := [105, 102]) rfl ⟨by decide, by decide⟩)
   (with_reducible refine (C3.out).mono ?_)
   rintro e w3 ⟨he, hp, hb⟩
   have RES_3 := Lib.hid (RES_2.out.but hb (by have := HR.out; omega))
   clear RES_2
   have SLE_3 := Lib.hid (Nat.le_trans SLE_2.out hb.size)
   clear SLE_2
   have B_3 := Lib.hid (B_2.out.trans hb)
   clear hb B_2
   by_cases hc : M.isS [105, 102] ts = true
   ·rw [hc] at he
    rw [if_pos hc] at hp
    subst he
    have ex := EX.out
    rw [if_pos hc] at ex
    try rw [M.Res.bind_ok] at ex
    clear EX
    have EX := Lib.hid ex
    have P_3 := Lib.hid hp
    have HC3 := Lib.hid hc
    clear ex hp hc P_2
    go_wp2_with fail
    have C4 := Lib.hid ((branch_any HE HI hI c hit) w3 (ts.tail) P_3.out (fun h => HX.out (EX.out.trans (by rw [h]; try rfl))))
    have SLB4 := Lib.hid (SLE_3.out)
    (with_reducible refine (C4.out).mono ?_)
    intro e w4 hE
    rcases M.Res.em (M.pIf p it c (ts.tail)) with hk | ⟨r4, hk⟩ | ⟨a4, r4, hk⟩
    ·exact absurd (EX.out.trans (by rw [hk]; try rfl)) HX.out
    ·rw [hk] at hE
     obtain ⟨he, hb⟩ := hE
     unfold pv at he
     subst he
     have HB := Lib.hid (B_3.out.trans hb)
     have ex := EX.out
     rw [hk] at ex
     try rw [M.Res.bind_bad] at ex
     have EX2 := Lib.hid ex
     clear ex hk hb
     go_wp2_with fail
     rw [EX2.out]
     exact ⟨rfl, rfl, HB.out⟩
    rw [hk] at hE
    obtain ⟨⟨v, he, hv⟩, hp, hb⟩ := hE
    subst he
    obtain ⟨x4, rfl⟩ := hv.v9e
    have RES_4 := Lib.hid (RES_3.out.but hb (by have := HR.out; omega))
    clear RES_3
    have SLE_4 := Lib.hid (Nat.le_trans SLE_3.out hb.size)
    clear SLE_3
    have T4_4 := Lib.hid (hv.lo SLB4.out)
    have P_4 := Lib.hid hp
    have B_4 := Lib.hid (B_3.out.trans hb)
    clear hp hb hv P_3 B_3
    have ex := EX.out
    rw [hk] at ex
    try rw [M.Res.bind_ok] at ex
    clear EX
    have EX := Lib.hid ex
    clear ex hk
    obtain ⟨q0, q1, q2, q3⟩ := RES_4.out.c
    obtain ⟨z0, z1, z2, z3⟩ := RES_4.out.fz
    have lr0 : w.heap.size < w4.heap.size := RES_4.out.lt
    go_wp2_with fail
    refine bodyPost_ret (v := .agg #[.int .i64 x4.kind, .string x4.text, .int .u64 (x4.num : Nat), .slice x4.ka x4.kn x4.kc]) (by simp [results, Tryz.results64, go_sem, q0, q1, q2, q3]) rfl ?_
    rw [EX.out]
    exact tree_end _ _ _ (y := x4) HR.out.2.1 B_4.out T4_4.out P_4.out
   ·rw [if_neg hc] at hp
    rw [show M.isS [105, 102] ts = false by simpa using hc] at he
    subst he
    have ex := EX.out
    rw [if_neg hc] at ex
    clear EX
    have EX := Lib.hid ex
    have P_3 := Lib.hid hp
    have HC3 := Lib.hid hc
    clear ex hp hc P_2
    go_wp2_with fail
    have C4 := Lib.hid (accept_word P_3.out ⟨#[102, 111, 114]⟩ (s := [102, 111, 114]) rfl ⟨by decide, by decide⟩)
    (with_reducible refine (C4.out).mono ?_)
    rintro e w4 ⟨he, hp, hb⟩
    have RES_4 := Lib.hid (RES_3.out.but hb (by have := HR.out; omega))
    clear RES_3
    have SLE_4 := Lib.hid (Nat.le_trans SLE_3.out hb.size)
    clear SLE_3
    have B_4 := Lib.hid (B_3.out.trans hb)
    clear hb B_3
    by_cases hc : M.isS [102, 111, 114] ts = true
    ·rw [hc] at he
     rw [if_pos hc] at hp
     subst he
     have ex := EX.out
     rw [if_pos hc] at ex
     try rw [M.Res.bind_ok] at ex
     clear EX
     have EX := Lib.hid ex
     have P_4 := Lib.hid hp
     have HC4 := Lib.hid hc
     clear ex hp hc P_3
     go_wp2_with fail
     have C5 := Lib.hid ((loop_any HE HI hI c hit) w4 (ts.tail) P_4.out (fun h => HX.out (EX.out.trans (by rw [h]; try rfl))))
     have SLB5 := Lib.hid (SLE_4.out)
     (with_reducible refine (C5.out).mono ?_)
     intro e w5 hE
     rcases M.Res.em (M.pFor p it c (ts.tail)) with hk | ⟨r5, hk⟩ | ⟨a5, r5, hk⟩
     ·exact absurd (EX.out.trans (by rw [hk]; try rfl)) HX.out
     ·rw [hk] at hE
      obtain ⟨he, hb⟩ := hE
      unfold pv at he
      subst he
      have HB := Lib.hid (B_4.out.trans hb)
      have ex := EX.out
      rw [hk] at ex
      try rw [M.Res.bind_bad] at ex
      have EX2 := Lib.hid ex
      clear ex hk hb
      go_wp2_with fail
      rw [EX2.out]
      exact ⟨rfl, rfl, HB.out⟩
     rw [hk] at hE
     obtain ⟨⟨v, he, hv⟩, hp, hb⟩ := hE
     subst he
     obtain ⟨x5, rfl⟩ := hv.v9e
     have RES_5 := Lib.hid (RES_4.out.but hb (by have := HR.out; omega))
     clear RES_4
     have SLE_5 := Lib.hid (Nat.le_trans SLE_4.out hb.size)
     clear SLE_4
     have T5_5 := Lib.hid (hv.lo SLB5.out)
     have P_5 := Lib.hid hp
     have B_5 := Lib.hid (B_4.out.trans hb)
     clear hp hb hv P_4 B_4
     have ex := EX.out
     rw [hk] at ex
     try rw [M.Res.bind_ok] at ex
     clear EX
     have EX := Lib.hid ex
     clear ex hk
     obtain ⟨q0, q1, q2, q3⟩ := RES_5.out.c
     obtain ⟨z0, z1, z2, z3⟩ := RES_5.out.fz
     have lr0 : w.heap.size < w5.heap.size := RES_5.out.lt
     go_wp2_with fail
     refine bodyPost_ret (v := .agg #[.int .i64 x5.kind, .string x5.text, .int .u64 (x5.num : Nat), .slice x5.ka x5.kn x5.kc]) (by simp [results, Tryz.results64, go_sem, q0, q1, q2, q3]) rfl ?_
     rw [EX.out]
     exact tree_end _ _ _ (y := x5) HR.out.2.1 B_5.out T5_5.out P_5.out
    ·rw [if_neg hc] at hp
     rw [show M.isS [102, 111, 114] ts = false by simpa using hc] at he
     subst he
     have ex := EX.out
     rw [if_neg hc] at ex
     clear EX
     have EX := Lib.hid ex
     have P_4 := Lib.hid hp
     have HC4 := Lib.hid hc
     clear ex hp hc P_3
     go_wp2_with fail
     have C5 := Lib.hid (accept_word P_4.out ⟨#[111, 117, 116]⟩ (s := [111, 117, 116]) rfl ⟨by decide, by decide⟩)
     (with_reducible refine (C5.out).mono ?_)
     rintro e w5 ⟨he, hp, hb⟩
     have RES_5 := Lib.hid (RES_4.out.but hb (by have := HR.out; omega))
     clear RES_4
     have SLE_5 := Lib.hid (Nat.le_trans SLE_4.out hb.size)
     clear SLE_4
     have B_5 := Lib.hid (B_4.out.trans hb)
     clear hb B_4
     by_cases hc : M.isS [111, 117, 116] ts = true
     ·rw [hc] at he
      rw [if_pos hc] at hp
      subst he
      have ex := EX.out
      rw [if_pos hc] at ex
      try rw [M.Res.bind_ok] at ex
      clear EX
      have EX := Lib.hid ex
      have P_5 := Lib.hid hp
      have HC5 := Lib.hid hc
      clear ex hp hc P_4
      go_wp2_with fail
      have C6 := Lib.hid ((out_any HE c) w5 (ts.tail) P_5.out (fun h => HX.out (EX.out.trans (by rw [h]; try rfl))))
      have SLB6 := Lib.hid (SLE_5.out)
      (with_reducible refine (C6.out).mono ?_)
      intro e w6 hE
      rcases M.Res.em (M.pOut p c (ts.tail)) with hk | ⟨r6, hk⟩ | ⟨a6, r6, hk⟩
      ·exact absurd (EX.out.trans (by rw [hk]; try rfl)) HX.out
      ·rw [hk] at hE
       obtain ⟨he, hb⟩ := hE
       unfold pv at he
       subst he
       have HB := Lib.hid (B_5.out.trans hb)
       have ex := EX.out
       rw [hk] at ex
       try rw [M.Res.bind_bad] at ex
       have EX2 := Lib.hid ex
       clear ex hk hb
       go_wp2_with fail
       rw [EX2.out]
       exact ⟨rfl, rfl, HB.out⟩
      rw [hk] at hE
      obtain ⟨⟨v, he, hv⟩, hp, hb⟩ := hE
      subst he
      obtain ⟨x6, rfl⟩ := hv.v9e
      have RES_6 := Lib.hid (RES_5.out.but hb (by have := HR.out; omega))
      clear RES_5
      have SLE_6 := Lib.hid (Nat.le_trans SLE_5.out hb.size)
      clear SLE_5
      have T6_6 := Lib.hid (hv.lo SLB6.out)
      have P_6 := Lib.hid hp
      have B_6 := Lib.hid (B_5.out.trans hb)
      clear hp hb hv P_5 B_5
      have ex := EX.out
      rw [hk] at ex
      try rw [M.Res.bind_ok] at ex
      clear EX
      have EX := Lib.hid ex
      clear ex hk
      obtain ⟨q0, q1, q2, q3⟩ := RES_6.out.c
      obtain ⟨z0, z1, z2, z3⟩ := RES_6.out.fz
      have lr0 : w.heap.size < w6.heap.size := RES_6.out.lt
      go_wp2_with fail
      refine bodyPost_ret (v := .agg #[.int .i64 x6.kind, .string x6.text, .int .u64 (x6.num : Nat), .slice x6.ka x6.kn x6.kc]) (by simp [results, Tryz.results64, go_sem, q0, q1, q2, q3]) rfl ?_
      rw [EX.out]
      exact tree_end _ _ _ (y := x6) HR.out.2.1 B_6.out T6_6.out P_6.out
     ·rw [if_neg hc] at hp
      rw [show M.isS [111, 117, 116] ts = false by simpa using hc] at he
      subst he
      have ex := EX.out
      rw [if_neg hc] at ex
      clear EX
      have EX := Lib.hid ex
      have P_5 := Lib.hid hp
      have HC5 := Lib.hid hc
      clear ex hp hc P_4
      go_wp2_with fail
      have C6 := Lib.hid (accept_word P_5.out ⟨#[100, 101, 102]⟩ (s := [100, 101, 102]) rfl ⟨by decide, by decide⟩)
      (with_reducible refine (C6.out).mono ?_)
      rintro e w6 ⟨he, hp, hb⟩
      have RES_6 := Lib.hid (RES_5.out.but hb (by have := HR.out; omega))
      clear RES_5
      have SLE_6 := Lib.hid (Nat.le_trans SLE_5.out hb.size)
      clear SLE_5
      have B_6 := Lib.hid (B_5.out.trans hb)
      clear hb B_5
      by_cases hc : M.isS [100, 101, 102] ts = true
      ·rw [hc] at he
       rw [if_pos hc] at hp
       subst he
       have ex := EX.out
       rw [if_pos hc] at ex
       try rw [M.Res.bind_ok] at ex
       clear EX
       have EX := Lib.hid ex
       have P_6 := Lib.hid hp
       have HC6 := Lib.hid hc
       clear ex hp hc P_5
       go_wp2_with fail
       have C7 := Lib.hid ((procedure_any HE HI hI c hit) w6 (ts.tail) P_6.out (fun h => HX.out (EX.out.trans (by rw [h]; try rfl))))
       have SLB7 := Lib.hid (SLE_6.out)
       (with_reducible refine (C7.out).mono ?_)
       intro e w7 hE
       rcases M.Res.em (M.pDef p it c (ts.tail)) with hk | ⟨r7, hk⟩ | ⟨a7, r7, hk⟩
       ·exact absurd (EX.out.trans (by rw [hk]; try rfl)) HX.out
       ·rw [hk] at hE
        obtain ⟨he, hb⟩ := hE
        unfold pv at he
        subst he
        have HB := Lib.hid (B_6.out.trans hb)
        have ex := EX.out
        rw [hk] at ex
        try rw [M.Res.bind_bad] at ex
        have EX2 := Lib.hid ex
        clear ex hk hb
        go_wp2_with fail
        rw [EX2.out]
        exact ⟨rfl, rfl, HB.out⟩
       rw [hk] at hE
       obtain ⟨⟨v, he, hv⟩, hp, hb⟩ := hE
       subst he
       obtain ⟨x7, rfl⟩ := hv.v9e
       have RES_7 := Lib.hid (RES_6.out.but hb (by have := HR.out; omega))
       clear RES_6
       have SLE_7 := Lib.hid (Nat.le_trans SLE_6.out hb.size)
       clear SLE_6
       have T7_7 := Lib.hid (hv.lo SLB7.out)
       have P_7 := Lib.hid hp
       have B_7 := Lib.hid (B_6.out.trans hb)
       clear hp hb hv P_6 B_6
       have ex := EX.out
       rw [hk] at ex
       try rw [M.Res.bind_ok] at ex
       clear EX
       have EX := Lib.hid ex
       clear ex hk
       obtain ⟨q0, q1, q2, q3⟩ := RES_7.out.c
       obtain ⟨z0, z1, z2, z3⟩ := RES_7.out.fz
       have lr0 : w.heap.size < w7.heap.size := RES_7.out.lt
       go_wp2_with fail
       refine bodyPost_ret (v := .agg #[.int .i64 x7.kind, .string x7.text, .int .u64 (x7.num : Nat), .slice x7.ka x7.kn x7.kc]) (by simp [results, Tryz.results64, go_sem, q0, q1, q2, q3]) rfl ?_
       rw [EX.out]
       exact tree_end _ _ _ (y := x7) HR.out.2.1 B_7.out T7_7.out P_7.out
      ·rw [if_neg hc] at hp
       rw [show M.isS [100, 101, 102] ts = false by simpa using hc] at he
       subst he
       have ex := EX.out
       rw [if_neg hc] at ex
       clear EX
       have EX := Lib.hid ex
       have P_6 := Lib.hid hp
       have HC6 := Lib.hid hc
       clear ex hp hc P_5
       go_wp2_with fail
       have C7 := Lib.hid ((assignment_any HE) w6 ts P_6.out (fun h => HX.out (EX.out.trans (by rw [h]; try rfl))))
       have SLB7 := Lib.hid (SLE_6.out)
       (with_reducible refine (C7.out).mono ?_)
       intro e w7 hE
       rcases M.Res.em (M.pSet p ts) with hk | ⟨r7, hk⟩ | ⟨a7, r7, hk⟩
       ·exact absurd (EX.out.trans (by rw [hk]; try rfl)) HX.out
       ·rw [hk] at hE
        obtain ⟨he, hb⟩ := hE
        unfold pv at he
        subst he
        have HB := Lib.hid (B_6.out.trans hb)
        have ex := EX.out
        rw [hk] at ex
        try rw [M.Res.bind_bad] at ex
        have EX2 := Lib.hid ex
        clear ex hk hb
        go_wp2_with fail
        rw [EX2.out]
        exact ⟨rfl, rfl, HB.out⟩
       rw [hk] at hE
       obtain ⟨⟨v, he, hv⟩, hp, hb⟩ := hE
       subst he
       obtain ⟨x7, rfl⟩ := hv.v9e
       have RES_7 := Lib.hid (RES_6.out.but hb (by have := HR.out; omega))
       clear RES_6
       have SLE_7 := Lib.hid (Nat.le_trans SLE_6.out hb.size)
       clear SLE_6
       have T7_7 := Lib.hid (hv.lo SLB7.out)
       have P_7 := Lib.hid hp
       have B_7 := Lib.hid (B_6.out.trans hb)
       clear hp hb hv P_6 B_6
       have ex := EX.out
       rw [hk] at ex
       try rw [M.Res.bind_ok] at ex
       clear EX
       have EX := Lib.hid ex
       clear ex hk
       obtain ⟨q0, q1, q2, q3⟩ := RES_7.out.c
       obtain ⟨z0, z1, z2, z3⟩ := RES_7.out.fz
       have lr0 : w.heap.size < w7.heap.size := RES_7.out.lt
       go_wp2_with fail
       refine bodyPost_ret (v := .agg #[.int .i64 x7.kind, .string x7.text, .int .u64 (x7.num : Nat), .slice x7.ka x7.kn x7.kc]) (by simp [results, Tryz.results64, go_sem, q0, q1, q2, q3]) rfl ?_
       rw [EX.out]
       exact tree_end _ _ _ (y := x7) HR.out.2.1 B_7.out T7_7.out P_7.out
end Go.Proofs.YtngpedcihajepaaGreatDoor
namespace Go.Proofs.YtngpedcihajepaaGreatDoor
open Go.RowKit
variable {hi R N : Nat}
theorem tok_ne {k : Int} {t : List Nat} (h : M.tokB k t = true) : t ≠ [] := (M.skip_tok [] h).2
theorem accept_end {w : World} {ts : List M.Tok} (h : PS hi R N w ts) : Calls Tryz.prog 63 #[.pointer (some ⟨R, 0, none⟩), .string ⟨#[]⟩] w fun e w' => e = .returned (.bool (decide (ts = []))) /\ (ts ≠ [] -> PS hi R N w' ts) /\ But R w w' := by
 have NX := Lib.hid (next_any h)
 have HF := h.2.2.2.1
 cases ts with
 | nil =>
  obtain ⟨h1, h2, h3, h4, b, o, c, c0, hc, hbR, hb, hl, ht⟩ := h
  simp only [List.length_nil, Nat.zero_add] at c0 hc
  rw [decide_eq_true rfl]
  have BU := Lib.hid fun u => (But.refl R w).set (p := ⟨R, 0, none⟩) rfl u
  clear ht h1 h2 h3 h4 hl hbR hb
  go_enter Tryz.func63, Tryz.ntmps63
  go_wp2_with fail
  (with_reducible refine (NX.out).mono ?_)
  rintro e w' ⟨⟨T, rfl, hT, -⟩, rfl⟩
  obtain rfl : T = ⟨#[]⟩ := M.bs_inj hT
  clear hT
  by_cases hc1 : c = 1
  ·subst hc1
   go_wp2_with fail
   go_ret
   exact ⟨rfl, fun h => absurd rfl h, BU.out _⟩
  ·have hc2 : 1 < c := by omega
   go_wp2_with fail
   go_ret
   exact ⟨rfl, fun h => absurd rfl h, BU.out _⟩
 | cons t r =>
  rw [decide_eq_false (by simp)]
  have HG := Lib.hid (tok_ne h.good)
  have HP := Lib.hid h
  clear h
  go_enter Tryz.func63, Tryz.ntmps63
  go_wp2_with fail
  (with_reducible refine (NX.out).mono ?_)
  rintro e w' ⟨⟨T, rfl, hT, -⟩, rfl⟩
  have hne : T.toList.isEmpty = false := by
   rw [M.empty_is, decide_eq_false_iff_not]
   intro h0
   refine HG.out ?_
   have h1 := M.bs_len T
   rw [hT, h0] at h1
   exact List.length_eq_zero_iff.1 h1
  clear hT
  go_wp2_with fail
  go_ret
  exact ⟨rfl, fun _ => HP.out, But.refl _ _⟩
def ends (k : List M.Tree) (r : List M.Tok) : M.Res (List M.Tree) := match r with | [] => .ok k [] | _ => .bad r
def EndE (R N : Nat) (w : World) (x : M.Res (List M.Tree)) (e : Ending) (w' : World) : Prop :=
 match x with
 | .ok a r => vList w w' e a /\ But R w w'
 | .bad r => e = pv (M.placeOf N r) /\ But R w w'
 | .out => False
theorem items_end_any {it : List M.Tok -> M.Res M.Tree} (HP : PC hi R N vTree 64 it) (hl : ∀ l, M.Sh l.length (it l)) (c : Nat) (hit : 0 < c -> ∀ l, M.itemS l = false -> it l = .bad l) (w : World) (ts : List M.Tok) (h : PS hi R N w ts)
  (hne : ((M.pItems it c [] ts).bind fun k r => ends k r) ≠ .out) :
  Calls Tryz.prog 41 #[.pointer (some ⟨R, 0, none⟩), .string ⟨#[]⟩] w (EndE R N w ((M.pItems it c [] ts).bind fun k r => ends k r)) := by
 have hud := hud9
 have HR := Lib.hid (show R < hi /\ hi <= w.heap.size /\ ts.length <= 20000 from ⟨h.1, h.2.1, by obtain ⟨_, _, _, _, _, _, _, _, _, _, _, h9, _⟩ := h; exact h9⟩)
 obtain ⟨X, eX⟩ : ∃ X, X = ((M.pItems it c [] ts).bind fun k r => ends k r) := ⟨_, rfl⟩
 rw [<- eX] at hne ⊢
 have EX := Lib.hid eX
 have HX := Lib.hid hne
 have HLE := Lib.hid hl
 have HIT := Lib.hid hit
 have P_0 := Lib.hid h
 clear eX hne h hl hit
 go_enter Tryz.func41, Tryz.ntmps41
 go_wp2_with fail
 go_loopg [5] c (fun g tl wr => ∃ (a : List M.Tree) (r : List M.Tok), X = ((M.pItems it g a r).bind fun k r => ends k r) /\ g <= c /\ RowN w.heap.size wr tl a /\ PS hi R N wr r /\ But R w wr /\ a.length + r.length <= 20000)
 case atStart => exact ⟨[], ts, EX.out, Nat.le_refl _, RowN.nil _ _, P_0.out, But.refl _ _, by have := HR.out; simp; omega⟩
 case round =>
  obtain ⟨a, r, hx, hgc, hrow, hp, hb, hcnt⟩ := hrel
  have EXR := Lib.hid hx
  have ROW := Lib.hid hrow
  have PR := Lib.hid hp
  have BR := Lib.hid hb
  have CN := Lib.hid hcnt
  have GC := Lib.hid hgc
  obtain ⟨A, cp, rfl⟩ := hrow.sl
  clear hx hrow hp hb hcnt hgc
  cases gk with
  | zero => exact absurd (by rw [EXR.out, M.pItems]; rfl) HX.out
  | succ g =>
   have ex := EXR.out
   rw [M.pItems] at ex
   have EXR := Lib.hid ex
   clear ex
   have AC := Lib.hid (accept_end PR.out)
   go_wp2_with fail
   (with_reducible refine (AC.out).mono ?_)
   rintro e w2 ⟨he, hp, hb⟩
   by_cases hc : r = []
   ·rw [decide_eq_true hc] at he
    subst he
    subst hc
    have ex := EXR.out
    rw [if_neg (by decide), M.Res.bind_ok] at ex
    have EX3 := Lib.hid ex
    have BC2 := Lib.hid hb
    clear ex hp hb
    go_wp2_with fail
    go_ret
    rw [EX3.out]
    have hlR : R < w.heap.size := by have := HR.out; omega
    exact ⟨⟨_, rfl, ROW.out.step (BC2.out.stay hlR), by have := CN.out; omega⟩, BR.out.trans BC2.out⟩
   ·have hp := hp hc
    rw [decide_eq_false hc] at he
    subst he
    have PC2 := Lib.hid hp
    have BC2 := Lib.hid hb
    have HC2 := Lib.hid hc
    have hno : it r ≠ .out := by
     intro h
     by_cases hi' : M.itemS r = true
     ·exact HX.out (EXR.out.trans (by rw [if_pos hi', h]; rfl))
     ·rw [HIT.out (by have := GC.out; omega) r (by simpa using hi')] at h
      cases h
    have C3 := Lib.hid (HP w2 r hp hno)
    clear hp hb hc hno
    go_wp2_with fail
    (with_reducible refine (C3.out).mono ?_)
    intro e w3 hE
    have HII := Lib.hid (show M.itemS r = false -> it r = .bad r from HIT.out (by have := GC.out; omega) r)
    rcases M.Res.em (it r) with hk | ⟨r3, hk⟩ | ⟨a3, r3, hk⟩
    ·rw [hk] at hE; exact hE.elim
    ·rw [hk] at hE
     obtain ⟨he, hb⟩ := hE
     unfold pv at he
     subst he
     have HB := Lib.hid ((BR.out.trans BC2.out).trans hb)
     have EX2 := Lib.hid (show X = .bad r3 by
      rw [EXR.out]
      by_cases hi' : M.itemS r = true
      ·rw [if_pos hi', hk]; rfl
      ·have h2 := HII.out (by simpa using hi')
       rw [hk] at h2
       injection h2 with h2
       subst h2
       rw [if_neg hi', M.Res.bind_ok]
       cases r3 with
       | nil => exact absurd rfl HC2.out
       | cons t r => rfl)
     clear hk hb
     go_wp2_with fail
     rw [EX2.out]
     exact ⟨rfl, rfl, HB.out⟩
    rw [hk] at hE
    obtain ⟨⟨v, he, hv⟩, hp, hb⟩ := hE
    subst he
    obtain ⟨y, rfl⟩ := hv.v9e
    have HLK3 := Lib.hid (show r3.length < r.length by have := HLE.out r; rw [hk] at this; exact this)
    have EX4 := Lib.hid (show X = ((M.pItems it g (a ++ [a3]) r3).bind fun k r => ends k r) by
     rw [EXR.out]
     have hi' : M.itemS r = true := by
      cases hi' : M.itemS r with
      | true => rfl
      | false => have h2 := HII.out hi'; rw [hk] at h2; cases h2
     rw [if_pos hi', hk]; rfl)
    have B3 := Lib.hid ((BR.out.trans BC2.out).trans hb)
    have hlR : R < w.heap.size := by have := HR.out; omega
    have ROW3 := Lib.hid ((ROW.out.step (BC2.out.stay hlR)).step (hb.stay hlR))
    have hown := (ROW.out.step (BC2.out.stay hlR)).own
    have T3 := Lib.hid ((hv.out _ fun k e => .inl (hown k e).2).lo (Nat.le_trans BR.out.size BC2.out.size))
    have P3 := Lib.hid hp
    clear hk hv hp hb hown hlR
    have ROWW := Lib.hid (ROW3.out.step (Below.stay (((Below.refl _ w3).alloc (Nat.le_refl _) (.cells #[.int .i64 y.kind, .string y.text, .int .u64 (y.num : Nat), .slice y.ka y.kn y.kc] 25)).alloc (by simp) (.cells #[.int .i64 y.kind, .string y.text, .int .u64 (y.num : Nat), .slice y.ka y.kn y.kc] 25))))
    have TW := Lib.hid (T3.out.step (Below.stay (((Below.refl _ w3).alloc (Nat.le_refl _) (.cells #[.int .i64 y.kind, .string y.text, .int .u64 (y.num : Nat), .slice y.ka y.kn y.kc] 25)).alloc (by simp) (.cells #[.int .i64 y.kind, .string y.text, .int .u64 (y.num : Nat), .slice y.ka y.kn y.kc] 25))))
    have NW := Lib.hid (show ∀ j u, (nodeCells [y])[j]? = some u -> ((w3.alloc (.cells #[.int .i64 y.kind, .string y.text, .int .u64 (y.num : Nat), .slice y.ka y.kn y.kc] 25)).alloc (.cells #[.int .i64 y.kind, .string y.text, .int .u64 (y.num : Nat), .slice y.ka y.kn y.kc] 25)).cell? ((⟨w3.heap.size + 1, 0, none⟩ : Addr).add j) = some u from
     new_cells (cells := #[.int .i64 y.kind, .string y.text, .int .u64 (y.num : Nat), .slice y.ka y.kn y.kc]) (by have := alloc_new (w3.alloc (.cells #[.int .i64 y.kind, .string y.text, .int .u64 (y.num : Nat), .slice y.ka y.kn y.kc] 25)) #[.int .i64 y.kind, .string y.text, .int .u64 (y.num : Nat), .slice y.ka y.kn y.kc] 25; rwa [World.size_alloc] at this) rfl)
    have PW := Lib.hid ((P3.out.alloc (.cells #[.int .i64 y.kind, .string y.text, .int .u64 (y.num : Nat), .slice y.ka y.kn y.kc] 25)).alloc (.cells #[.int .i64 y.kind, .string y.text, .int .u64 (y.num : Nat), .slice y.ka y.kn y.kc] 25))
    have BW := Lib.hid ((B3.out.alloc (.cells #[.int .i64 y.kind, .string y.text, .int .u64 (y.num : Nat), .slice y.ka y.kn y.kc] 25)).alloc (.cells #[.int .i64 y.kind, .string y.text, .int .u64 (y.num : Nat), .slice y.ka y.kn y.kc] 25))
    have OW := Lib.hid ROW3.out.own
    clear ROW3 T3 P3 B3 ROW PR BR
    go_wp2_with (at_builtin; refine wpList_append_nodes rfl _ _ rfl w.heap.size (.slice A a.length cp) a [a3] [y] ⟨w3.heap.size + 1, 0, none⟩ 1 1 rfl rfl ROWW.out (.cons TW.out .nil) NW.out rfl (by decide) ?d4 ?d5 ?_)
    case d4 => have := CN.out; omega
    case d5 => exact BW.out.size
    intro g2 cp2 w4 hrow4 hgrow4 hg4 hb4
    have RW4 := Lib.hid hrow4
    have PW4 := Lib.hid (PW.out.grown hgrow4 fun k e => by have := (OW.out k e).1; have := HR.out; omega)
    have BW4 := Lib.hid (BW.out.grown hgrow4 fun k e => (OW.out k e).1)
    clear hrow4 hgrow4 hg4 hb4
    go_wp2_with fail
    go_roundg g
    case measure => omega
    case rel => exact ⟨a ++ [a3], r3, EX4.out, by have := GC.out; omega, RW4.out, PW4.out, BW4.out, by have := HLK3.out; have := CN.out; simp; omega⟩
end Go.Proofs.YtngpedcihajepaaGreatDoor
namespace Go.Proofs.YtngpedcihajepaaGreatDoor
open Go.RowKit
variable {hi R N : Nat}
theorem PC.congr {α : Type} {V : World -> World -> Ending -> α -> Prop} {f : Nat} {p q : List M.Tok -> M.Res α} (h : PC hi R N V f p) (e : ∀ w ts, PS hi R N w ts -> p ts = q ts) : PC hi R N V f q := by
 intro w ts hp hne
 rw [<- e w ts hp] at hne ⊢
 exact h w ts hp hne
theorem PC.zero {α : Type} {V : World -> World -> Ending -> α -> Prop} {f : Nat} {q : List M.Tok -> M.Res α} (e : ∀ ts, q ts = .out) : PC hi R N V f q := fun w ts hp hne => absurd (e ts) hne
theorem less_level (f k : Nat) : Less (M.pLevel f k) := fun l a r e => by
 have := (M.expr_sh f).1 k l
 rw [e] at this
 exact Nat.le_of_lt this
theorem typed_is {w : World} {ts : List M.Tok} (h : PS hi R N w ts) : M.typedS ts = decide (M.headT ts = [110, 117, 109] \/ M.headT ts = [98, 105, 116] \/ M.headT ts = [119, 111, 114, 100]) := by
 unfold M.typedS
 rw [isS_text h ⟨by decide, by decide⟩, isS_text h ⟨by decide, by decide⟩, isS_text h ⟨by decide, by decide⟩]
 rw [Bool.eq_iff_iff]
 simp only [Bool.or_eq_true, decide_eq_true_eq]
 constructor
 ·rintro ((h | h) | h)
  ·exact .inl h
  ·exact .inr (.inl h)
  ·exact .inr (.inr h)
 ·rintro (h | h | h)
  ·exact .inl (.inl h)
  ·exact .inl (.inr h)
  ·exact .inr h
theorem exprs_all : ∀ f : Nat, PC hi R N vTree 147 (M.pLevel f 0) /\ PC hi R N vTree 165 (M.pLevel f 1) /\ PC hi R N vTree 173 (M.pLevel f 2) /\ PC hi R N vTree 182 (M.pLevel f 3) /\ PC hi R N vTree 186 (M.pLevel f 4) /\ PC hi R N vTree 187 (M.pLevel f 5) /\ PC hi R N vTree 188 (M.pLevel f 6) /\ PC hi R N vTree 188 (M.pUnary f)
 | 0 => ⟨.zero fun _ => by rw [M.pLevel], .zero fun _ => by rw [M.pLevel], .zero fun _ => by rw [M.pLevel], .zero fun _ => by rw [M.pLevel], .zero fun _ => by rw [M.pLevel], .zero fun _ => by rw [M.pLevel], .zero fun _ => by rw [M.pLevel], .zero fun _ => by rw [M.pUnary]⟩
 | f + 1 => by
  obtain ⟨h0, h1, h2, h3, h4, h5, h6, h7⟩ := exprs_all f
  have key : ∀ k, k <= 5 -> ∀ ts, ((M.pLevel f (k + 1) ts).bind fun n r => M.pLoop (M.pLevel f (k + 1)) k f n r) = M.pLevel (f + 1) k ts := fun k hk ts => by rw [M.pLevel, if_neg (by omega)]
  have hprim : PC hi R N vTree 190 (M.pPrimary (M.pLevel f 0) f) :=
   (primary_any h0 (less_level f 0) f fun w ts hp hf hne => named_any h0 (less_level f 0) f w ts hp hf hne).congr fun w ts hp => (M.prim_is _ _ _ hp.name (typed_is hp)).symm
  refine ⟨(expr_any h1 (less_level f 1) f).congr fun w ts hp => key 0 (by omega) ts, (xors_any h2 (less_level f 2) f).congr fun w ts hp => key 1 (by omega) ts, (ands_any h3 (less_level f 3) f).congr fun w ts hp => key 2 (by omega) ts, (compared_any h4 (less_level f 4) f).congr fun w ts hp => key 3 (by omega) ts, (sum_any h5 (less_level f 5) f).congr fun w ts hp => key 4 (by omega) ts, (product_any h6 (less_level f 6) f).congr fun w ts hp => key 5 (by omega) ts, h7.congr fun w ts hp => by rw [M.pLevel, if_pos (by decide)], ?_⟩
  exact (unary_any h7 (indexed_any h0 hprim f)).congr fun w ts hp => (M.unary_is f ts).symm
theorem items_all : ∀ f : Nat, PC hi R N vTree 64 (M.pItem f)
 | 0 => .zero fun _ => by rw [M.pItem]
 | f + 1 => (item_any (exprs_all f).1 (items_all f) (M.item_sh f) f (fun hf l hl => M.item_bad hl f hf)).congr fun w ts hp => (M.item_is f ts).symm
theorem program_any (f : Nat) (w : World) (ts : List M.Tok) (h : PS hi R N w ts) (hne : ((M.pItems (M.pItem f) f [] ts).bind fun k r => ends k r) ≠ .out) :
  Calls Tryz.prog 41 #[.pointer (some ⟨R, 0, none⟩), .string ⟨#[]⟩] w (EndE R N w ((M.pItems (M.pItem f) f [] ts).bind fun k r => ends k r)) :=
 items_end_any (items_all f) (M.item_sh f) f (fun hf l hl => M.item_bad hl f hf) w ts h hne
end Go.Proofs.YtngpedcihajepaaGreatDoor
namespace Go.Proofs.YtngpedcihajepaaGreatDoor
open Go.RowKit
theorem infoTok2 : ∃ i, Tryz.prog.info? 43 = some i /\ i.zero = some (.agg #[.int .i64 0, .string ⟨#[]⟩, .int .i64 0]) /\ i.size = 3 /\ i.bytes = 32 := by
 have h := infoTok
 cases hq : Tryz.prog.info? 43 with
 | none => rw [hq] at h; cases h
 | some i => rw [hq] at h; simp only [Option.map_some, Option.some.injEq, Prod.mk.injEq] at h; exact ⟨i, rfl, h.1, h.2.1, h.2.2⟩
theorem tok_short {k : Int} {t : List Nat} (h : M.tokB k t = true) : t.length <= 20000 := by
 rcases M.tok_cases h with ⟨_, h⟩ | ⟨_, h⟩ | ⟨_, h⟩
 ·have := (M.isName_facts h).2.1; omega
 ·have := (M.numE_zero h).2.2; omega
 ·rcases M.sign_cases h with rfl | ⟨c, rfl, _⟩ <;> simp
theorem set_other (w : World) (p : Addr) (u : Value) (q : Addr) (h : q.block ≠ p.block) : (w.setCell p u).cell? q = w.cell? q := World.cell?_of_block (Below.heap_setCell _ _ _ _ h)
def TreeIs (N : Nat) (ts : List M.Tok) (t : M.Tree) (at_ : Nat) (E : Int) : Prop :=
 match M.pProgram (M.fuel ts.length) ts with
 | .ok u _ => t = u /\ at_ = 0 /\ E = 0
 | .bad r => t = M.Tree.no /\ at_ = M.placeOf N r /\ E = 4
 | .out => False
theorem program_ends (f : Nat) (ts : List M.Tok) : M.pProgram f ts = ((M.pItems (M.pItem f) f [] ts).bind fun k r => ends k r).bind fun k r => .ok (.node 1 [] 0 k) r := by
 unfold M.pProgram
 rw [M.Res.bind_assoc]
 congr 1
 funext k r
 cases r <;> rfl
theorem tokAt_of {N : Nat} {w : World} {b : Nat} : ∀ (A : List T8) (ts : List M.Tok) (o : Nat), View A ts -> (∀ t ∈ ts, M.tokB t.kind t.text = true) -> (∀ j u, (tokCells A ++ [.int .i64 0, .string ⟨#[]⟩, .int .i64 (N : Nat)])[j]? = some u -> w.cell? ⟨b, o + j, none⟩ = some u) -> TokAt N w b o ts
 | [], ts, o, hv, hg, hc => by
  have : ts = [] := by
   have := hv.len
   exact List.length_eq_zero_iff.1 this.symm
  subst this
  rw [TokAt]
  exact ⟨⟨0, hc 0 _ rfl⟩, hc 1 _ rfl, hc 2 _ rfl⟩
 | a :: A, ts, o, hv, hg, hc => by
  cases ts with
  | nil => have := hv.len; simp at this
  | cons t r =>
   unfold View at hv
   simp only [List.map_cons, List.cons.injEq, Prod.mk.injEq] at hv
   obtain ⟨⟨h1, h2, h3⟩, h4⟩ := hv
   have hk := hg t (by simp)
   rw [TokAt]
   refine ⟨?_, ⟨a.text, hc 1 _ rfl, h2, ?_⟩, ?_, hk, ?_⟩
   ·rw [<- h1]; exact hc 0 _ rfl
   ·rw [<- M.bs_len, h2]
    exact tok_short hk
   ·rw [<- h3]; exact hc 2 _ rfl
   ·refine tokAt_of A r (o + 3) h4 (fun u hu => hg u (List.mem_cons_of_mem _ hu)) fun j u hu => ?_
    rw [show o + 3 + j = o + (j + 3) by omega]
    exact hc (j + 3) u hu
theorem tree_any (v : Value) (A : List T8) (ts : List M.Tok) (N : Nat) (base : Nat) (w : World) (hown : w.ownsRow base 43 3 v A.length (tokCells A)) (hbase : base <= w.heap.size) (hA : View A ts) (hg : ∀ t ∈ ts, M.tokB t.kind t.text = true) (hN : N <= 20000) (hl : ts.length <= 20000) : Calls Tryz.prog 26 #[v, .int .i64 (N : Nat)] w fun e w' => ∃ (nv : Value) (at_ : Nat) (E : Int) (t : M.Tree), e = .returned (.tuple #[nv, .int .i64 (at_ : Nat), .int .i64 E]) /\ NodeN w.heap.size none w' nv t /\ Below base w w' /\ TreeIs N ts t at_ E := by
 have hmf : ∀ (fn : Fn) (first cap : Array Value) (w : World), (Instr.makeFunc fn first cap).run Tryz.prog w = .ok (.func fn first cap) w := fun _ _ _ _ => rfl
 have hud := hud9
 obtain ⟨i0, hi0, hz0, hz1, hz2⟩ := infoTok2
 have hlen := hA.len
 obtain ⟨W4, eW4⟩ : ∃ W, W = (((w.alloc (.cells #[.int .i64 0, .string ⟨#[]⟩, .int .u64 0, .slice none 0 0] 25)).alloc (.cells #[.int .i64 0] 3)).alloc (.cells #[.int .i64 0] 26)).alloc (.cells #[.int .i64 0, .string ⟨#[]⟩, .int .i64 (N : Nat)] 43) := ⟨_, rfl⟩
 have hB4 : Below w.heap.size w W4 := by
  rw [eW4]
  exact ((((Below.refl _ w).alloc (Nat.le_refl _) _).alloc (by simp) _).alloc (by simp; omega) _).alloc (by simp; omega) _
 have hs4 : W4.heap.size = w.heap.size + 4 := by rw [eW4]; simp
 have OWN := Lib.hid (own_below hown hB4)
 have OLT := Lib.hid (fun g e => (hown.lt g e).2)
 have BASE := Lib.hid (fun g e => (hown.lt g e).1)
 have K1 := Lib.hid (show ∀ (j : Nat) (u : Value), [Value.int .i64 0, Value.string ⟨#[]⟩, Value.int .i64 (N : Nat)][j]? = some u -> W4.cell? ((⟨w.heap.size + 1 + 1 + 1, 0, none⟩ : Addr).add j) = some u by
  intro j u hu
  have h := alloc_new (((w.alloc (.cells #[.int .i64 0, .string ⟨#[]⟩, .int .u64 0, .slice none 0 0] 25)).alloc (.cells #[.int .i64 0] 3)).alloc (.cells #[.int .i64 0] 26)) #[.int .i64 0, .string ⟨#[]⟩, .int .i64 (N : Nat)] 43
  simp only [World.size_alloc] at h
  rw [<- eW4] at h
  rw [Addr.add_lit]
  unfold World.cell?
  rw [h]
  match j, hu with
  | 0, hu => simpa using hu
  | 1, hu => simpa using hu
  | 2, hu => simpa using hu)
 have R4 := Lib.hid (show Box9 W4 w.heap.size V9.no by
  rw [eW4]
  exact (((Box9.start w V9.no).alloc _).alloc _).alloc _)
 have AT4 := Lib.hid (show W4.heap[w.heap.size + 1]? = some (.cells #[.int .i64 0] 3 (0, 0)) by
  have h := alloc_new (w.alloc (.cells #[.int .i64 0, .string ⟨#[]⟩, .int .u64 0, .slice none 0 0] 25)) #[.int .i64 0] 3
  simp only [World.size_alloc] at h
  rw [eW4, Below.heap_alloc _ _ _ (by simp), Below.heap_alloc _ _ _ (by simp)]
  exact h)
 have ER4 := Lib.hid (show W4.heap[w.heap.size + 1 + 1]? = some (.cells #[.int .i64 0] 26 (0, 0)) by
  have h := alloc_new ((w.alloc (.cells #[.int .i64 0, .string ⟨#[]⟩, .int .u64 0, .slice none 0 0] 25)).alloc (.cells #[.int .i64 0] 3)) #[.int .i64 0] 26
  simp only [World.size_alloc] at h
  rw [eW4, Below.heap_alloc _ _ _ (by simp)]
  exact h)
 have HB4 := Lib.hid hB4
 have HS4 := Lib.hid hs4
 have EW4 := Lib.hid eW4
 have HV := Lib.hid hA
 have HG := Lib.hid hg
 have HLN := Lib.hid hlen
 clear hB4 hs4 hown hA hg hlen eW4
 go_enter_defers Tryz.func26, Tryz.ntmps26
 go_wp2_with (at_builtin; rw [<- EW4.out]; refine wpList_append_own _ rfl _ _ 39 rfl base 43 i0 (.agg #[.int .i64 0, .string ⟨#[]⟩, .int .i64 0]) 3 32 Tryz.underlying39 hi0 hz0 hz1 hz2 rfl (by decide) _ _ _ rfl OWN.out ⟨w.heap.size + 1 + 1 + 1, 0, none⟩ 1 1 [.int .i64 0, .string ⟨#[]⟩, .int .i64 (N : Nat)] rfl rfl K1.out ?d2 ?d3 ?d4 ?d5 ?_)
 case d2 => intro u hu; simp at hu; rcases hu with rfl | rfl | rfl <;> rfl
 case d3 => have := HLN.out; unfold maxLen; omega
 case d4 => have := HLN.out; omega
 case d5 => have := HS4.out; omega
 intro v' w5 hown5 hgrow5 hnn
 obtain ⟨g, cap, rfl, -, hgl⟩ := hown5.form (by omega)
 have hbg := (hown5.lt g rfl).1
 have hkeep : ∀ k, w.heap.size <= k -> k < W4.heap.size -> w5.heap[k]? = W4.heap[k]? := fun k h1 h2 => hgrow5.block k h2 (fun e => by have := OLT.out k e.symm; omega)
 have R5 := Lib.hid (R4.out.keep (hkeep _ (Nat.le_refl _) (by have := HS4.out; omega)))
 have AT5 := Lib.hid ((hkeep _ (by omega) (by have := HS4.out; omega)).trans AT4.out)
 have ER5 := Lib.hid ((hkeep _ (by omega) (by have := HS4.out; omega)).trans ER4.out)
 have B5 := Lib.hid (show Below base w w5 from (HB4.out.mono hbase).trans ⟨hgrow5.os, hgrow5.tape, hgrow5.output, hgrow5.size, fun k hk => hgrow5.block k (by have := HS4.out; omega) (fun e => by have := BASE.out k e.symm; omega)⟩)
 have SZ5 := Lib.hid (show w.heap.size + 4 <= w5.heap.size by have := HS4.out; have := hgrow5.size; omega)
 have OW5 := Lib.hid hown5
 clear hkeep hown5 hgrow5 hnn R4 AT4 ER4 OWN K1 EW4
 go_wp2_with fail
 obtain ⟨w6, ew6⟩ : ∃ w6, w6 = w5.alloc (.cells #[.slice (some ⟨g, 0, none⟩) (A.length + 1) cap] 74) := ⟨_, rfl⟩
 rw [<- ew6]
 have BL := Lib.hid (show Below w5.heap.size w5 w6 by rw [ew6]; exact (Below.refl _ _).alloc (Nat.le_refl _) _)
 have hRH := alloc_new w5 #[.slice (some ⟨g, 0, none⟩) (A.length + 1) cap] 74
 rw [<- ew6] at hRH
 have hs6 : w6.heap.size = w5.heap.size + 1 := by rw [ew6]; simp
 obtain ⟨R, eR⟩ : ∃ R, R = w5.heap.size := ⟨_, rfl⟩
 rw [<- eR]
 rw [<- eR] at hRH
 have P6 := Lib.hid (show PS w6.heap.size R N w6 ts by
  refine ⟨by omega, Nat.le_refl _, hN, ?_, g, 0, cap, ?_, ?_, by omega, by omega, hl, ?_⟩
  ·simp [World.frozen?, hRH]
  ·rw [<- HLN.out]
   simp [World.cell?, hRH]
  ·rw [<- HLN.out]
   rcases OW5.out.2 with ⟨e, _⟩ | ⟨g2, cap2, cur, e, _, _, hle, _⟩
   ·cases e
   ·injection e with e1 e2 e3
    omega
  ·refine tokAt_of A ts 0 HV.out HG.out fun j u hu => ?_
   have := OW5.out.cells (g := g) rfl j u hu
   rw [Addr.add_lit, Nat.zero_add] at this
   rw [Nat.zero_add]
   exact (BL.out.cell (p := ⟨g, j, none⟩) hgl).trans this)
 have R6 := Lib.hid (R5.out.below BL.out)
 have AT6 := Lib.hid ((BL.out.block _ (by have := SZ5.out; omega)).trans AT5.out)
 have ER6 := Lib.hid ((BL.out.block _ (by have := SZ5.out; omega)).trans ER5.out)
 have B6 := Lib.hid (B5.out.trans (BL.out.mono (by have := SZ5.out; omega)))
 have SZ6 := Lib.hid (show w.heap.size + 4 <= R /\ R < w6.heap.size from ⟨by have := SZ5.out; omega, by omega⟩)
 have hpn := M.program_fin ts
 rw [program_ends] at hpn
 have C1 := Lib.hid (program_any (M.fuel ts.length) w6 ts P6.out (fun h => hpn (by rw [h]; rfl)))
 have PE := Lib.hid (program_ends (M.fuel ts.length) ts)
 clear ew6 hRH hs6 eR hpn P6 BL R5 AT5 ER5 B5 SZ5 OW5 hgl hbg
 (with_reducible refine (C1.out).mono ?_)
 intro e w7 hE
 obtain ⟨X, eX⟩ : ∃ X, X = ((M.pItems (M.pItem (M.fuel ts.length)) (M.fuel ts.length) [] ts).bind fun k r => ends k r) := ⟨_, rfl⟩
 rw [<- eX] at hE
 have PEX := PE.out
 rw [<- eX] at PEX
 have PX := Lib.hid PEX
 clear PEX eX
 cases X with
 | out => exact hE.elim
 | bad r =>
  obtain ⟨he, hb⟩ := hE
  unfold pv at he
  subst he
  have h1 := SZ6.out
  have AT7 := Lib.hid ((hb.block _ (by omega) (by omega)).trans AT6.out)
  have ER7 := Lib.hid ((hb.block _ (by omega) (by omega)).trans ER6.out)
  have R7 := Lib.hid (R6.out.but hb (by omega))
  have B7 := Lib.hid (B6.out.trans ⟨hb.os, hb.tape, hb.output, hb.size, fun k hk => hb.block k (by have := B6.out.size; omega) (by omega)⟩)
  have S7 := Lib.hid (show w.heap.size + 4 <= w7.heap.size by have := hb.size; omega)
  clear hb h1
  go_wp2_with fail
  refine leaves_cons (f := 40) (args := #[.pointer (some ⟨w.heap.size + 1, 0, none⟩), .pointer (some ⟨w.heap.size + 1 + 1, 0, none⟩)]) (by simp) (by simp [go_sem]) ?_
  have c1 : w7.cell? ⟨w.heap.size + 1, 0, none⟩ = some (.int .i64 0) := by simp [World.cell?, AT7.out]
  have z1 : w7.frozen? ⟨w.heap.size + 1, 0, none⟩ = false := by simp [World.frozen?, AT7.out]
  have c2 : w7.cell? ⟨w.heap.size + 1 + 1, 0, none⟩ = some (.int .i64 0) := by simp [World.cell?, ER7.out]
  have z2 : w7.frozen? ⟨w.heap.size + 1 + 1, 0, none⟩ = false := by simp [World.frozen?, ER7.out]
  refine (catch_panicking (w.heap.size + 1) (w.heap.size + 1 + 1) (M.placeOf N r) _ _ [] w7 (by have := S7.out; omega) (by have := S7.out; omega) (by omega) c1 z1 c2 z2).mono ?_
  rintro e u' w8 ⟨rfl, rfl, hw8⟩
  have hw := R7.out.alloc (.cells #[.int .i64 (M.placeOf N r : Nat)] 71)
  have hR8 : Box9 w8 w.heap.size V9.no := by
   rw [hw8]
   exact (hw.keep (Below.heap_setCell _ _ _ _ (by simp))).keep (Below.heap_setCell _ _ _ _ (by simp; omega))
  have hB8 : Below base w w8 := by
   rw [hw8]
   exact ((B7.out.alloc (by have := S7.out; omega) _).setCell (by simp; omega) _).setCell (by simp; omega) _
  have a2 : w8.cell? ⟨w.heap.size + 1 + 1, 0, none⟩ = some (.int .i64 4) := by
   rw [hw8, World.cell?_setCell_same']
   rw [set_other _ _ _ _ (by simp), World.cell?_alloc_past _ _ _ (by have := S7.out; omega), c2]
   rfl
  have a1 : w8.cell? ⟨w.heap.size + 1, 0, none⟩ = some (.int .i64 (M.placeOf N r : Nat)) := by
   rw [hw8, set_other _ _ _ _ (by simp), World.cell?_setCell_same']
   rw [World.cell?_alloc_past _ _ _ (by have := S7.out; omega), c1]
   rfl
  have PXF := PX.out
  rw [M.Res.bind_bad] at PXF
  obtain ⟨q0, q1, q2, q3⟩ := hR8.c
  clear hw hw8
  show Leaves _ _ _ _ [] .returning w8
  refine ⟨.tuple #[.agg #[.int .i64 0, .string ⟨#[]⟩, .int .u64 0, .slice none 0 0], .int .i64 (M.placeOf N r : Nat), .int .i64 4], ?_, ?_⟩
  ·simp [results, Tryz.results26, go_sem, q0, q1, q2, q3, a1, a2]
   exact ⟨rfl, rfl, rfl, rfl, rfl, rfl⟩
  ·refine ⟨_, M.placeOf N r, 4, M.Tree.no, rfl, fun _ _ => ⟨⟨#[]⟩, _, rfl, rfl, ⟨by decide, by decide, by decide⟩, KidsV.nil _⟩, hB8, ?_⟩
   unfold TreeIs
   rw [PXF]
   exact ⟨rfl, rfl, rfl⟩
 | ok k r =>
  obtain ⟨⟨v2, he, hrow, hkl⟩, hb⟩ := hE
  subst he
  obtain ⟨A2, cp2, rfl⟩ := hrow.sl
  have h1 := SZ6.out
  have AT7 := Lib.hid ((hb.block _ (by omega) (by omega)).trans AT6.out)
  have ER7 := Lib.hid ((hb.block _ (by omega) (by omega)).trans ER6.out)
  have R7 := Lib.hid (R6.out.but hb (by omega))
  have B7 := Lib.hid (B6.out.trans ⟨hb.os, hb.tape, hb.output, hb.size, fun k hk => hb.block k (by have := B6.out.size; omega) (by omega)⟩)
  have S7 := Lib.hid (show w.heap.size + 4 <= w7.heap.size by have := hb.size; omega)
  have ROW := Lib.hid hrow
  have HKL := Lib.hid hkl
  have LO6 := Lib.hid (show w.heap.size + 4 <= w6.heap.size by omega)
  have c1 : w7.cell? ⟨w.heap.size + 1, 0, none⟩ = some (.int .i64 0) := by simp [World.cell?, AT7.out]
  have z1 : w7.frozen? ⟨w.heap.size + 1, 0, none⟩ = false := by simp [World.frozen?, AT7.out]
  have c2 : w7.cell? ⟨w.heap.size + 1 + 1, 0, none⟩ = some (.int .i64 0) := by simp [World.cell?, ER7.out]
  have z2 : w7.frozen? ⟨w.heap.size + 1 + 1, 0, none⟩ = false := by simp [World.frozen?, ER7.out]
  obtain ⟨q0, q1, q2, q3⟩ := R7.out.c
  obtain ⟨z3, z4, z5, z6⟩ := R7.out.fz
  clear hb h1 hrow hkl
  go_wp2_with fail
  refine leaves_cons (f := 40) (args := #[.pointer (some ⟨w.heap.size + 1, 0, none⟩), .pointer (some ⟨w.heap.size + 1 + 1, 0, none⟩)]) (by simp) (by simp [go_sem]) ?_
  clear q0 q1 q2 q3 z3 z4 z5 z6
  have ht := put9_touch w7 w.heap.size 1 ⟨#[]⟩ (0 : Nat) (.slice A2 k.length cp2)
  have hx := R7.out.put 1 ⟨#[]⟩ 0 A2 k.length cp2
  obtain ⟨W7, eW7⟩ : ∃ W, W = put9 w7 w.heap.size 1 ⟨#[]⟩ (0 : Nat) (.slice A2 k.length cp2) := ⟨_, rfl⟩
  rw [<- eW7] at ht hx
  obtain ⟨W8, eW8⟩ : ∃ W, W = (W7.setCell ⟨w.heap.size + 1, 0, none⟩ (.int .i64 0)).setCell ⟨w.heap.size + 1 + 1, 0, none⟩ (.int .i64 0) := ⟨_, rfl⟩
  refine (show CallsD _ _ _ _ W8 _ from (catch_idle9 ⟨w.heap.size + 1, 0, none⟩ ⟨w.heap.size + 1 + 1, 0, none⟩ W8).mono ?_) |> (fun h => by rw [eW8, eW7] at h; exact h)
  rintro e u' w9 ⟨rfl, rfl, hw9⟩
  have hs7 := ht.size
  have hR8 : Box9 w9 w.heap.size ⟨1, ⟨#[]⟩, 0, A2, k.length, cp2⟩ := by
   rw [hw9, eW8]
   exact (((hx.keep (Below.heap_setCell _ _ _ _ (by simp))).keep (Below.heap_setCell _ _ _ _ (by simp; omega)))).alloc _
  have hst : Stay w6.heap.size none w7 w9 := by
   rw [hw9, eW8]
   have hl6 := LO6.out
   exact ((ht.stay (.inl (by omega))).trans ((((Touch.refl (w.heap.size + 1) W7).set (p := ⟨w.heap.size + 1, 0, none⟩) rfl (.int .i64 0)).stay (.inl (by omega))).trans (((Touch.refl (w.heap.size + 1 + 1) _).set (p := ⟨w.heap.size + 1 + 1, 0, none⟩) rfl (.int .i64 0)).stay (.inl (by omega))))).trans (Below.stay ((Below.refl _ _).alloc (Nat.le_refl _) _))
  have hB8 : Below base w w9 := by
   rw [hw9, eW8]
   refine (((Below.trans B7.out ⟨ht.os, ht.tape, ht.output, by omega, fun j hj => ht.block j (by omega)⟩).setCell (by simp; omega) _).setCell (by simp; omega) _).alloc (by have := S7.out; simp [World.setCell]; omega) _
  have a2 : w9.cell? ⟨w.heap.size + 1 + 1, 0, none⟩ = some (.int .i64 0) := by
   have := S7.out
   rw [hw9, eW8, World.cell?_alloc_past _ _ _ (by simp [World.setCell]; omega), World.cell?_setCell_same']
   rw [set_other _ _ _ _ (by simp), World.cell?_of_block (w := w7) (ht.block _ (by simp; omega)), c2]
   rfl
  have a1 : w9.cell? ⟨w.heap.size + 1, 0, none⟩ = some (.int .i64 0) := by
   have := S7.out
   rw [hw9, eW8, World.cell?_alloc_past _ _ _ (by simp [World.setCell]; omega), set_other _ _ _ _ (by simp), World.cell?_setCell_same']
   rw [World.cell?_of_block (w := w7) (ht.block _ (by simp)), c1]
   rfl
  have PXF := PX.out
  rw [M.Res.bind_ok] at PXF
  obtain ⟨q0, q1, q2, q3⟩ := hR8.c
  clear hw9 eW8 eW7 ht hx hs7
  show Leaves _ _ _ _ [] .returning w9
  refine ⟨.tuple #[.agg #[.int .i64 1, .string ⟨#[]⟩, .int .u64 0, .slice A2 k.length cp2], .int .i64 0, .int .i64 0], ?_, ?_⟩
  ·simp [results, Tryz.results26, go_sem, q0, q1, q2, q3, a1, a2]
  ·refine ⟨_, 0, 0, .node 1 [] 0 k, rfl, ?_, hB8, ?_⟩
   ·exact ((NodeN.make (k := 1) (T := ⟨#[]⟩) (n := 0) (ROW.out.kids (by have := HKL.out; omega)) rfl ⟨by omega, by omega, by decide⟩).step hst).lo (by have := LO6.out; omega)
   ·unfold TreeIs
    rw [PXF]
    exact ⟨rfl, rfl, rfl⟩
end Go.Proofs.YtngpedcihajepaaGreatDoor
