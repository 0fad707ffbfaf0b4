/-
  From the listed table of words to its twenty cells.
  Conditions: the table reads as the program's text lays it.
-/
import Derived.Test.YtnjhbikppfgccaaDoorRows
import Derived.Test.YtnjhbikppfgccaaDoorW
import Derived.ProofKit
import Derived.LaidMore
import Derived.OpenShut
import Derived.OpenVars
import Derived.Stop.Joined
import Derived.ShutString
import Derived.ChangeOld
import Derived.Below
namespace Go.Proofs.YtnjhbikppfgccaaDoor
open Go.ChangeShapes Go.WideShapes Go.ChangeAt Go.WideMaps Go.WideElems Go.RowKit
open Go.ChangeMaps (open_string shut_string)
theorem own : ownKnob Tryd.prog.godebug = none := by kernel_rfl
theorem laidOut : laidOutB Tryd.prog = true := by kernel_rfl
theorem gTab : Tryd.prog.globalNamed "loop.example/g00608/impl.codeWords" = some 0 := by kernel_rfl
theorem tTab : (Tryd.prog.globals[0]?).map (·.type) = some 27 := by kernel_rfl
theorem c9 : Tryd.prog.cellsOf 9 = 1 := by kernel_rfl

def laidL : List (String × DataW Unit) := [("loop.example/g00608/impl.codeWords", Rows.laid_loop_example_g00608_impl_codeWords)]

theorem door_met (os : Os) (args : Array Value) : laidMetH Tryd.prog laidL ((World.doorLaid Tryd.prog 14 os).forCall (fun _ _ => 0) ⟨#[], args, []⟩).memory :=
  laidMetH_of_parts3 (fuel := 8) (laidMet_of_run' 8 (by kernel_rfl) (by kernel_rfl)) (by kernel_rfl) (by kernel_rfl)

theorem words_len : cw.words.length = 20 := by decide

theorem of_laid {W : World} (h : laidMetH Tryd.prog laidL W) : cw.TabIs W ∧ 0 < W.heap.size := by
  rw [MakeChecks.laidMetH_plain _ _ _ (by kernel_rfl)] at h
  obtain ⟨ps, ⟨g0, t0, cs0, f0, p0, q0, hg0, ht0, hv0, hd0, _, _⟩, _, _⟩ := h
  obtain rfl := Option.some.inj (gTab.symm.trans hg0)
  obtain rfl := Option.some.inj (tTab.symm.trans ht0)
  obtain ⟨xs, m1, rfl, hx1, hlen, hn, hel⟩ := DataW.trod_array Tryd.underlying27 hd0
  have hx2 : xs.map (·.1) = cw.words.map (fun l => (DataW.lit (.string l) : DataW Unit)) := by
    have := (Prod.mk.inj hx1).1
    have h2 : (Rows.laid_loop_example_g00608_impl_codeWords : DataW Unit) = .agg (cw.words.map (fun l => (DataW.lit (.string l) : DataW Unit))) := rfl
    rw [h2] at this
    exact (DataW.agg.inj this).symm
  have hcell : ∀ i, i < 20 → W.cell? ⟨0, i, none⟩ = some (.string (cw.word i)) := by
    intro i hi
    have h0 := hel i hi
    rw [c9, Nat.mul_one] at h0
    have hxi : xs[i]? = some (xs[i]'(by omega)) := List.getElem?_eq_getElem (by omega)
    rw [hxi] at h0
    obtain ⟨s, e1, e2, _⟩ := DataW.trod_string Tryd.underlying9 h0
    have h3 : (xs.map (·.1))[i]? = some (DataW.lit (.string s.data.toList)) := by
      rw [List.getElem?_map, hxi, e2]; rfl
    rw [hx2, List.getElem?_map] at h3
    have hwi : cw.words[i]? = some (cw.words[i]'(by rw [words_len]; exact hi)) := List.getElem?_eq_getElem (by rw [words_len]; exact hi)
    rw [hwi] at h3
    simp only [Option.map_some, Option.some.injEq, DataW.lit.injEq, Lit.string.injEq] at h3
    have hs : s = cw.word i := by
      unfold cw.word
      rw [List.getD_eq_getElem?_getD, hwi]
      simp only [Option.getD_some]
      rw [h3]
    have h4 : cs0.toList[i]? = some (.string s) := by
      have : ((cs0.toList.drop i).take 1)[0]? = some (.string s) := by rw [e1]; rfl
      simpa using this
    have := World.var?_cell hg0 hv0 i
    rw [this, ← hs]
    simpa using h4
  refine ⟨hcell, ?_⟩
  have h0 := hcell 0 (by omega)
  rcases Nat.eq_zero_or_pos W.heap.size with hz | hz
  · exfalso
    unfold World.cell? at h0
    simp [hz] at h0
  · exact hz
end Go.Proofs.YtnjhbikppfgccaaDoor
