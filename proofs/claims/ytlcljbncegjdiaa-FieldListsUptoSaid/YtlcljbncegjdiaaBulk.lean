/-
  What the bound of the second form gives for a slice among the arguments.
-/
import Derived.Test.YtlcljbncegjdiaaRows
namespace Go.Proofs.Ytlcljbncegjdiaa

theorem bulk_pos {H : Type} (d : DataW H) : 0 < Rows.uptoBulk d := by
  cases d <;> try (simp [Rows.uptoBulk]; done)
  rename_i l
  cases l <;> simp [Rows.uptoBulk]
theorem bulk_length {H : Type} : ∀ l : List (DataW H), l.length ≤ Rows.uptoBulkAll l
  | [] => by simp
  | d :: l => by have := bulk_pos d; have := bulk_length l; simp only [Rows.uptoBulkAll, List.length_cons]; omega
theorem bulk_mem {H : Type} {d : DataW H} : ∀ {l : List (DataW H)}, d ∈ l → Rows.uptoBulk d ≤ Rows.uptoBulkAll l
  | [], h => by cases h
  | x :: l, h => by
    simp only [Rows.uptoBulkAll]
    rcases List.mem_cons.1 h with rfl | h
    · omega
    · have := bulk_mem h; omega
theorem bulk_slice {H : Type} {ds : List (DataW H)} {elems spare : List (DataW H)} {d : DataW H} (hk : Rows.uptoSmall H ds = true) (hd : d = DataW.slice elems spare) (h : d ∈ ds) : elems.length ≤ 1048576 := by
  subst hd
  have h1 : Rows.uptoBulkAll ds ≤ 1048576 := of_decide_eq_true hk
  have h2 := bulk_mem h
  have h3 := bulk_length elems
  simp only [Rows.uptoBulk] at h2
  omega
end Go.Proofs.Ytlcljbncegjdiaa
