/-
  Contracts of NewDisk, as the model and as the program have it, and the walk of the law FnExactNewDisk.
  Conditions: none.
-/
import Derived.Test.YtccapcadgjlmkaaBase
import Derived.Test.YtccapcadgjlmkaaTo
import Derived.Test.YtccapcadgjlmkaaEq
import Derived.Test.YtccapcadgjlmkaaMk
import Derived.Outline
namespace Go.Proofs.Ytccapcadgjlmkaa
set_option linter.unusedVariables false
open Go.RowKit

def noS : List ByteArray := List.replicate 64 ByteArray.empty
theorem noS_len : noS.length = 64 := by simp [noS]
theorem noS_at {i : Nat} (h : i < 64) : noS.getD i ByteArray.empty = ByteArray.empty := by
  unfold noS; rw [List.getD_eq_getElem?_getD, List.getElem?_replicate, if_pos h]; rfl
theorem made_noS (w : World) : OwnS (w.alloc (.cells (madeCells #[Value.string ByteArray.empty] 64) 9)) w.heap.size noS := by
  unfold OwnS
  rw [noS_len]
  refine (Own.made w #[Value.string ByteArray.empty] 64 9).congr fun i hi => ?_
  unfold strAt
  rw [noS_at hi]
  simp [Nat.mod_one]
theorem make64 (W : World) : (Instr.makeSlice 23 (.int .i64 64) (.int .i64 64)).run Try.prog W = .ok (.slice (some ⟨W.heap.size, 0, none⟩) 64 64) (W.alloc (.cells (madeCells #[Value.string ByteArray.empty] 64) 9)) := by
  obtain ⟨i0, hi0, hz0, hz1, hz2⟩ := info_parts info_str
  have hmk := run_make_rowN (P := Try.prog) 23 9 i0 _ Try.underlying23 hi0 hz0 .i64 .i64 64 64 (Nat.le_refl _) (by rw [hz2]; omega) (by omega) W
  rw [hz1] at hmk
  exact hmk

set_option maxRecDepth 100000 in
set_option maxHeartbeats 1000000 in
theorem specNewDisk_c (w : World) : Calls Try.prog 80 #[] w (RetDisk w noS []) := by
  have hmk := make64
  go_enter Try.func80, Try.ntmps80
  go_wp2
  have ho := Own.alloc (made_noS (w.alloc (.cells #[.slice (some ⟨w.heap.size + 1, 0, none⟩) 64 64, .slice (some ⟨w.heap.size + 1 + 1, 0, none⟩) 0 0] 26))) (.cells #[] 80)
  simp only [World.size_alloc] at ho
  have hx := (((Nx.refl w).alloc (.cells #[.slice (some ⟨w.heap.size + 1, 0, none⟩) 64 64, .slice (some ⟨w.heap.size + 1 + 1, 0, none⟩) 0 0] 26)).alloc (.cells (madeCells #[Value.string ByteArray.empty] 64) 9)).alloc (.cells #[] 80)
  have q := ((Box.new w 26 #[.slice (some ⟨w.heap.size + 1, 0, none⟩) 64 64, .slice (some ⟨w.heap.size + 1 + 1, 0, none⟩) 0 0]).alloc (.cells (madeCells #[Value.string ByteArray.empty] 64) 9)).alloc (.cells #[] 80)
  have q0 := q.c0
  have q1 := q.c1
  generalize ((w.alloc (.cells #[.slice (some ⟨w.heap.size + 1, 0, none⟩) 64 64, .slice (some ⟨w.heap.size + 1 + 1, 0, none⟩) 0 0] 26)).alloc (.cells (madeCells #[Value.string ByteArray.empty] 64) 9)).alloc (.cells #[] 80) = W at *
  exact bodyPost_ret (v := .agg #[.slice (some ⟨w.heap.size + 1, 0, none⟩) 64 64, .slice (some ⟨w.heap.size + 1 + 1, 0, none⟩) 0 0]) (by simp [results, Try.results80, go_sem, q0, q1]) rfl
    ⟨_, 64, 64, _, 0, 0, rfl, ⟨noS_len, fun _ => ⟨_, rfl, by omega, ho⟩⟩, ⟨rfl, fun h => absurd h (by omega)⟩, hx⟩

end Go.Proofs.Ytccapcadgjlmkaa
