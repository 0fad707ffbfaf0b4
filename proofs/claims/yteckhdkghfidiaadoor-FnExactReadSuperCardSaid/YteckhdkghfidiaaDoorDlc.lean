/-
  From the listed errors and tables to what is known of them in memory, the world's shape kept.
  Conditions: the package's errors and the library's tables read as the program's text lays them.
-/
import Derived.Test.YteckhdkghfidiaaDoorRows
import Derived.Test.YteckhdkghfidiaaDoorNum
import Derived.Test.YteckhdkghfidiaaDoorCtm
import Derived.Lay
import Derived.HandedShaped
import Derived.Shelf.Vars
import Derived.ProofKit
import Derived.LaidMore
import Derived.OpenShut
import Derived.OpenVars
import Derived.Stop.Joined
import Derived.Stop.LaidTwo
import Derived.Lib.LaidTab
import Derived.LaidLaws
import Derived.ShutString
import Derived.ChangeOld
import Derived.Below
namespace Go.Proofs.YteckhdkghfidiaaDoor
set_option maxRecDepth 100000
open Go.ChangeShapes Go.WideShapes Go.ChangeAt Go.WideMaps Go.WideElems Go.RowKit
theorem ownP : ownKnob Tryd.prog.godebug = none := by kernel_rfl
theorem laidOutP : laidOutB Tryd.prog = true := by kernel_rfl
theorem gLongP : Tryd.prog.globalNamed "loop.example/g00608/impl.errTextLong" = some 1 := by kernel_rfl
theorem gFormP : Tryd.prog.globalNamed "loop.example/g00608/impl.errTextForm" = some 0 := by kernel_rfl
theorem tLongP : (Tryd.prog.globals[1]?).map (·.type) = some 52 := by kernel_rfl
theorem tFormP : (Tryd.prog.globals[0]?).map (·.type) = some 52 := by kernel_rfl
theorem starP : "*" ++ "errors.errorString" = "*errors.errorString" := by decide
theorem rowEP (u : TypeId) (h : Tryd.prog.typeName? 3 u = some "*errors.errorString") : u = 150 :=
  typeName_ptr_named (nm := "errors.errorString") (by rw [starP]; kernel_rfl) (by kernel_rfl) (by decide) u (by rw [starP]; exact h)
theorem cellsEP : Tryd.prog.cellsOf 173 = 1 := by kernel_rfl
theorem cellsSP : Tryd.prog.cellsOf 9 = 1 := by kernel_rfl

def laidP : List (String × DataW Unit) := [("unicode/utf8.acceptRanges", Rows.laid_unicode_utf8_acceptRanges), ("loop.example/g00608/impl.errTextLong", Rows.laid_loop_example_g00608_impl_errTextLong), ("loop.example/g00608/impl.errTextForm", Rows.laid_loop_example_g00608_impl_errTextForm), ("unicode/utf8.first", Rows.laid_unicode_utf8_first)]
theorem plainP : ∀ w, laidMetH Tryd.prog laidP w = laidMet Tryd.prog laidP w := fun w => MakeChecks.laidMetH_plain _ _ _ (by kernel_rfl)
theorem door_metP (os : Os) (args : Array Value) : laidMetH Tryd.prog laidP ((World.laidAll Tryd.prog os laidP).forCall (fun _ _ => 0) ⟨#[], args, []⟩).memory := by
  rw [plainP]; exact laidMet_laidAll _ (by kernel_rfl) (by kernel_rfl)
theorem of_laidP {W : World} (h : laidMetH Tryd.prog laidP W) : ∃ a0 a1, Er W a0 a1 := by
  rw [plainP] at h
  obtain ⟨a1, a0, s1, s0, c1, c0, t1, t0, hv1, hv0, _, _, _, _, _, _, hne, hb1, hb0⟩ := laid_sentinels2 (laidMet.tail h) gLongP tLongP gFormP tFormP Tryd.underlying52 rowEP Tryd.underlying150 Tryd.underlying173 rfl rfl Tryd.underlying9 cellsEP cellsSP
  exact ⟨a0, a1, World.var?_cell gFormP hv0 0, World.var?_cell gLongP hv1 0, hne.symm, ⟨c0, t0, hb0⟩, c1, t1, hb1⟩
theorem mx_of_shaped {W : World} (h : W.ShapedOpen Tryd.prog) : Mx W := cell_of_shapedOpen_int (zero := #[.int .i64 0]) h (of_decide_eq_true (by kernel_rfl)) (by kernel_rfl) rfl (by kernel_rfl) (by kernel_rfl) Tryd.underlying3
variable {H : Type} {enc : TypeId × Value → H}
/-- The wrap, the listed variables and the world's shape kept. -/
theorem handed_shaped {a : Assume} {C : Checked} {os : Os} {f : FuncId} {fn : Func} {s : ChangeSpec} {conds : List PathCond} {apart fresh handsOn again : Bool} {X : World → Array Value → Prop}
    (hX : ∀ (w w' : World) (args : Array Value), w.heap = w'.heap → X w args → X w' args)
    (own : ownKnob C.prog.godebug = none) (started : os.Started) (noInit : C.prog.inits.idxOf? f = none) (hfn : C.prog.funcs[f]? = some fn)
    (witness : ∃ (w : World) (tape : Tape) (i : Input), w.os = os ∧ (w.forCall tape i).Shaped C.prog ∧ i.vars = [] ∧ Input.okWide C.prog (w.forCall tape i) .any w.heap.size f i ∧
      ((s.pre enc C.prog fn conds apart (w.forCall tape i).memory i.args ∧ X (w.forCall tape i).memory i.args) ∧ sizedMet enc C.prog fn (OpenSpec.ofChange s) apart (w.forCall tape i).memory i.args) ∧ a.holds C.prog (lone (Frame.enter C.prog f i.args .normal) [] (w.forCall tape i)))
    (contract : ∀ (W : World) (base : Nat) (args : Array Value) (ds gs : List (DataW H)) (before : List MemPlace),
      (∀ (j : Nat) t v, fn.params[j]? = some t → args[j]? = some v → Value.okWide C.prog W .any base t v) →
      DataW.Whole enc C.prog fn.params.toList s.vars apart W args.toList ds gs before →
      W.ShapedOpen C.prog → X W args →
      Calls C.prog f args W fun e W' => ∃ v, e = .returned v ∧ s.post enc C.prog fn apart fresh handsOn again W args v W') :
    ReturnsInHanded a C os f .any (fun w args => (s.pre enc C.prog fn conds apart w args ∧ X w args) ∧ sizedMet enc C.prog fn (OpenSpec.ofChange s) apart w args) (s.post enc C.prog fn apart fresh handsOn again) := by
  refine returnsInHanded_of_calls own started noInit witness ?_
  intro w tape i _ hsh _ hok hpre hholds
  obtain ⟨_, _, _, fn', hfn', _, _, _, _, hval⟩ := hok
  have e : fn' = fn := Option.some.inj (hfn'.symm.trans hfn)
  subst e
  obtain ⟨⟨⟨ds, gs, before, hw, hc⟩, hx⟩, hz⟩ := hpre
  have hw' := DataW.Whole.of_heap (w' := w.forCall tape i) (by rfl) hw
  refine (contract (w.forCall tape i) w.heap.size i.args ds gs before hval hw' hsh (hX _ _ _ (by rfl) hx)).mono fun e W' ⟨v, he, hp⟩ => ?_
  subst he
  exact ChangeSpec.post_blind hp
end Go.Proofs.YteckhdkghfidiaaDoor
