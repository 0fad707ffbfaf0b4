/-
  Texts of the proof, put together in their order: Cnt, Lex, Sgi, Pln, Fwl, Sgs, Fws, Sof, Mgi.
  Conditions: those of each.
-/
import Derived.Test.YtihpadelfpogmaaMv0
import Derived.Deep.RegionHeld3
import Derived.IntWalk
/- Contracts of ContentOK, as the model and as the program have it: both answer the same bool. Conditions: the list can be read, and holds at most 1048576 elements. -/
namespace Go.Proofs.Ytihpadelfpogmaa
set_option linter.unusedVariables false
set_option maxRecDepth 100000
open Go.RowKit

set_option maxHeartbeats 1000000 in
theorem specContentOK_c (A : Option Addr) (c B : Nat) (xs : List Int) (w : World) (h : Ins w B A xs) (hB : B ≤ w.heap.size) (hn : xs.length ≤ 1048576) :
    Calls Try.prog 72 #[.slice A xs.length c] w fun e w' => e = .returned (.bool (contB xs)) ∧ Nx w w' := by
  by_cases hl : 4096 < xs.length
  · have hd : decide (4096 < (xs.length : Int)) = true := by simp; omega
    have HR := Lib.hid (contB_len (xs := xs) (by omega)).symm
    go_enter Try.func72, Try.ntmps72
    go_wp2
    go_ret
    exact ⟨ret_bool HR.out, Nx.refl _⟩
  have hd : decide (4096 < (xs.length : Int)) = false := by simp; omega
  go_enter Try.func72, Try.ntmps72
  go_wp2
  go_loopw [3] (fun i wr => ∃ k : Nat, k ≤ xs.length ∧ i = .int .i64 k ∧ InTo xs k ∧ Nx w wr) (fun i _ => xs.length - (intOf i).toNat)
  case atStart => exact ⟨0, Nat.zero_le _, rfl, InTo.zero _, Nx.refl _⟩
  case round =>
    obtain ⟨k, hk, rfl, hto, hnx⟩ := hrel
    by_cases hlt : k < xs.length
    · obtain ⟨b, off, rfl, hb, hc⟩ := (h.below hnx hB).at_ hlt
      obtain ⟨s, Hs⟩ : ∃ s, Hid (xs.getD k 0 = s) := ⟨_, rfl⟩
      rw [Hs.out] at hc
      cases hx : inB 0 999999 s with
      | false =>
        have HX := Lib.hid hx
        have HR := Lib.hid (contB_no hlt (by rw [Hs.out]; exact hx)).symm
        clear hx
        go_wp2_with (go_at_call 122; refine (l01In_c _ _ _ _).mono ?_; rintro e w' ⟨rfl, rfl⟩; rw [HX.out])
        go_ret
        exact ⟨ret_bool HR.out, hnx⟩
      | true =>
        have HX := Lib.hid hx
        clear hx
        go_wp2_with (go_at_call 122; refine (l01In_c _ _ _ _).mono ?_; rintro e w' ⟨rfl, rfl⟩; rw [HX.out])
        go_roundw
        case rel => exact ⟨k + 1, by omega, by go_num, hto.succ (by rw [Hs.out]; exact HX.out), hnx⟩
        case measure => simp [intOf]; omega
    · obtain rfl : k = xs.length := by omega
      by_cases h8 : xs.length = 8
      · have HR := Lib.hid (contB_mk h8 hto).symm
        have he : ((xs.length : Int) == 8) = true := by rw [h8]; rfl
        go_wp2
        go_ret
        exact ⟨ret_bool HR.out, hnx⟩
      · have HR := Lib.hid (contB_len h8).symm
        have he : ((xs.length : Int) == 8) = false := by simp; omega
        go_wp2
        go_ret
        exact ⟨ret_bool HR.out, hnx⟩

set_option maxHeartbeats 1000000 in
theorem implContentOK_c (A : Option Addr) (c B : Nat) (xs : List Int) (w : World) (h : Ins w B A xs) (hB : B ≤ w.heap.size) (hn : xs.length ≤ 1048576) :
    Calls Try.prog 53 #[.slice A xs.length c] w fun e w' => e = .returned (.bool (contB xs)) ∧ Nx w w' := by
  by_cases h8 : xs.length = 8
  case neg =>
    have hd : ((xs.length : Int) != 8) = true := by simp; omega
    have HR := Lib.hid (contB_len (xs := xs) h8).symm
    go_enter Try.func53, Try.ntmps53
    go_wp2
    go_ret
    exact ⟨ret_bool HR.out, Nx.refl _⟩
  have hd : ((xs.length : Int) != 8) = false := by simp; omega
  have H8 := Lib.hid h8
  clear h8
  go_enter Try.func53, Try.ntmps53
  go_wp2
  go_loopw [4, 10] (fun v i wr => ∃ k : Nat, k ≤ xs.length ∧ i = .int .i64 k ∧ InTo xs k ∧ Nx w wr) (fun _ i _ => xs.length - (intOf i).toNat)
  case atStart => exact ⟨0, Nat.zero_le _, rfl, InTo.zero _, Nx.refl _⟩
  case round =>
    obtain ⟨k, hk, rfl, hto, hnx⟩ := hrel
    by_cases hlt : k < xs.length
    · obtain ⟨b, off, rfl, hb, hc⟩ := (h.below hnx hB).at_ hlt
      obtain ⟨s, Hs⟩ : ∃ s, Hid (xs.getD k 0 = s) := ⟨_, rfl⟩
      rw [Hs.out] at hc
      cases hx : inB 0 999999 s with
      | false =>
        have HX := Lib.hid hx
        have HR := Lib.hid (contB_no hlt (by rw [Hs.out]; exact hx)).symm
        clear hx
        go_wp2_with (go_at_call 113; refine (isValue_c _ _).mono ?_; rintro e w' ⟨rfl, rfl⟩; rw [HX.out])
        go_ret
        exact ⟨ret_bool HR.out, hnx⟩
      | true =>
        have HX := Lib.hid hx
        clear hx
        go_wp2_with (go_at_call 113; refine (isValue_c _ _).mono ?_; rintro e w' ⟨rfl, rfl⟩; rw [HX.out])
        go_roundw
        case rel => exact ⟨k + 1, by omega, by go_num, hto.succ (by rw [Hs.out]; exact HX.out), hnx⟩
        case measure => simp [intOf]; omega
    · obtain rfl : k = xs.length := by omega
      have HR := Lib.hid (contB_mk H8.out hto).symm
      go_wp2
      go_ret
      exact ⟨ret_bool HR.out, hnx⟩
end Go.Proofs.Ytihpadelfpogmaa
/- A region that draws its order, walked once, in the order of its text: what only reads cells that stay as they are (S) is taken first, a call comes up when nothing else may. Conditions: those of each theorem. -/
namespace Go.Proofs.Ytihpadelfpogmaa
set_option linter.unusedVariables false
set_option maxRecDepth 100000
open Go.RowKit
section
variable {P : Program} {ops : Array Oper} {Q : Exit → Act → World → Prop} {S : World → Prop}
/-- The walk: of each operation a mark: true: a call that is met by its contract. -/
def HL (P : Program) (ops : Array Oper) (Q : Exit → Act → World → Prop) (S : World → Prop) : List Bool → List Oper → Act → World → Prop
  | false :: cs, o :: l, a, w => ∃ v, YieldsIf P ops S o v a ∧ HL P ops Q S cs l (a.put o.dst v) w
  | true :: cs, o :: l, a, w => Region.wanted o (yielded ops a.tmps) = true ∧ ∀ K : Act → World → Prop, Hid (∀ a' w', S w' → HL P ops Q S cs l a' w' → K a' w') → o.wp P a w K Q
  | _, _, a, w => Q .normal a w
/-- What is asked of the region's edges alone. -/
def lexB (md : Region.Mode) (ops : Array Oper) : List Bool → Nat → Array Bool → Bool
  | [], _, listed => Region.ready md ops listed == []
  | false :: cs, k, listed => (Region.ready md ops listed).contains k && Region.free md ops listed k && lexB md ops cs (k + 1) (listed.setIfInBounds k true)
  | true :: cs, k, listed => (Region.ready md ops listed == [k]) && lexB md ops cs (k + 1) (listed.setIfInBounds k true)
theorem HL.take {cs : List Bool} {o : Oper} {l : List Oper} {a : Act} {w : World} {v : Value} (hw : Region.wanted o (yielded ops a.tmps) = true) (h : ∀ w, S w → (execOp a.eval o).run P w = .ok (.value v) w)
    (hr : HL P ops Q S cs l (a.put o.dst v) w) : HL P ops Q S (false :: cs) (o :: l) a w := ⟨v, .inl ⟨hw, h⟩, hr⟩
theorem HL.skip {cs : List Bool} {o : Oper} {l : List Oper} {a : Act} {w : World} (hw : Region.wanted o (yielded ops a.tmps) = false) (hr : HL P ops Q S cs l (a.put o.dst undef) w) : HL P ops Q S (false :: cs) (o :: l) a w :=
  ⟨undef, .inr ⟨hw, rfl⟩, hr⟩
theorem HL.call {cs : List Bool} {o : Oper} {l : List Oper} {a : Act} {w : World} (hw : Region.wanted o (yielded ops a.tmps) = true)
    (h : ∀ K : Act → World → Prop, Hid (∀ a' w', S w' → HL P ops Q S cs l a' w' → K a' w') → o.wp P a w K Q) : HL P ops Q S (true :: cs) (o :: l) a w := ⟨hw, h⟩
theorem HL.done {a : Act} {w : World} (h : Q .normal a w) : HL P ops Q S [] [] a w := h
theorem HL.any {md : Region.Mode} (hs : Region.noSelect ops = true) (hQ : ∀ c a d v w, Q (.panic c) (Act.put a d v) w → Q (.panic c) a w) :
    ∀ (cs : List Bool) (l : List Oper) (k : Nat) (listed : Array Bool) (a : Act) (w : World), (∀ j, j < l.length → ops[k + j]? = l[j]?) → l.length = cs.length → lexB md ops cs k listed = true → S w →
      HL P ops Q S cs l a w → wpAnyH P md ops Q S cs.length listed a w
  | [], [], k, listed, a, w, _, _, hB, _, h => by
    refine wpAnyH_done ?_ h _
    simpa [lexB] using hB
  | [], _ :: _, _, _, _, _, _, hl, _, _, _ => by simp at hl
  | _ :: _, [], _, _, _, _, _, hl, _, _, _ => by simp at hl
  | c :: cs, o :: l, k, listed, a, w, ho, hl, hB, hS, h => by
    have h0 : ops[k]? = some o := by simpa using ho 0 (by simp)
    have ho' : ∀ j, j < l.length → ops[k + 1 + j]? = l[j]? := fun j hj => by
      have := ho (j + 1) (by simp; omega)
      rw [show k + 1 + j = k + (j + 1) by omega, this]; simp
    have hl' : l.length = cs.length := by simpa using hl
    cases c with
    | false =>
      simp only [lexB, Bool.and_eq_true] at hB
      obtain ⟨⟨hr, hf⟩, hB'⟩ := hB
      obtain ⟨v, hy, hK⟩ := h
      exact wpAnyH_take h0 hs hf hr (fun c a w => hQ c a _ _ w) hy hS (HL.any hs hQ cs l (k + 1) _ _ w ho' hl' hB' hS hK)
    | true =>
      simp only [lexB, Bool.and_eq_true, beq_iff_eq] at hB
      obtain ⟨hr, hB'⟩ := hB
      obtain ⟨hw, hK⟩ := h
      refine wpAnyH_all hr (by simp) fun i hi => ?_
      obtain rfl : i = k := by simpa using hi
      unfold wpOp
      simp only [h0, hw, if_true]
      exact .inl (hK _ (Lib.hid fun a' w' hS' h' => ⟨hS', HL.any hs hQ cs l (i + 1) _ a' w' ho' hl' hB' hS' h'⟩))
/-- The region. -/
theorem wp_region_lex {id : Nat} {a : Act} {w : World} {l : List Oper} (cs : List Bool) (S : World → Prop) (hm : P.follows .mixedOrders = true) (hs : Region.noSelect l.toArray = true) (hl : l.length = cs.length)
    (hB : lexB .any l.toArray cs 0 (Array.replicate l.toArray.size false) = true) (hQ : ∀ c a d v w, Q (.panic c) (Act.put a d v) w → Q (.panic c) a w) (hS : S w.drew)
    (h : HL P l.toArray Q S cs l a w.drew) : (Code.region id l.toArray true).wp P Q a w := by
  refine wp_region_held_drew (S := S) hm hS fun _ => ?_
  have := HL.any (md := .any) hs hQ cs l 0 (Array.replicate l.toArray.size false) a w.drew (fun j hj => by simp) hl hB hS h
  have e : l.toArray.size = cs.length := by simpa using hl
  rw [e]
  rw [e] at this
  exact this
end
end Go.Proofs.Ytihpadelfpogmaa
/- Contracts of Seg.isRight and SegOK, as the program has them. Conditions: the segment can be read, and has at most 1048576 changes. -/
namespace Go.Proofs.Ytihpadelfpogmaa
set_option linter.unusedVariables false
set_option maxRecDepth 100000
open Go.RowKit

set_option maxRecDepth 100000 in
set_option maxHeartbeats 4000000 in
theorem segRight_c (f t m : Int) (A : Option Addr) (c B : Nat) (cs : List Chg) (w : World) (h : Chs w B A cs) (hB : B ≤ w.heap.size) (hn : cs.length ≤ 1048576) :
    Calls Try.prog 115 #[.agg #[.int .i64 f, .int .i64 t, .int .i64 m, .slice A cs.length c]] w fun e w' => e = .returned (.bool (segB f t m cs)) ∧ Nx w w' := by
  cases x1 : inB 0 999999 f with
  | false =>
    have H1 := Lib.hid x1
    clear x1
    have HR := Lib.hid (segB_no (f := f) (t := t) (m := m) (cs := cs) (.inr (.inr (.inl H1.out)))).symm
    go_enter Try.func115, Try.ntmps115
    go_wp2_with (first
      | (go_at_call 114; refine (isPosition_c _ _).mono ?_; rintro e w' ⟨rfl, rfl⟩; first | rw [H1.out])
      | (go_at_call 140; refine (isTime_c _ _).mono ?_; rintro e w' ⟨rfl, rfl⟩; fail))
    go_ret
    exact ⟨ret_bool HR.out, (Nx.refl _).alloc _⟩
  | true =>
  have H1 := Lib.hid x1
  obtain ⟨hf0, hf1⟩ := inB_yes x1
  clear x1
  cases x2 : inB 0 999999 t with
  | false =>
    have H2 := Lib.hid x2
    clear x2
    have HR := Lib.hid (segB_no (f := f) (t := t) (m := m) (cs := cs) (.inr (.inr (.inr (.inl H2.out))))).symm
    go_enter Try.func115, Try.ntmps115
    go_wp2_with (first
      | (go_at_call 114; refine (isPosition_c _ _).mono ?_; rintro e w' ⟨rfl, rfl⟩; first | rw [H1.out] | rw [H2.out])
      | (go_at_call 140; refine (isTime_c _ _).mono ?_; rintro e w' ⟨rfl, rfl⟩; fail))
    go_ret
    exact ⟨ret_bool HR.out, (Nx.refl _).alloc _⟩
  | true =>
  have H2 := Lib.hid x2
  obtain ⟨ht0, ht1⟩ := inB_yes x2
  clear x2
  by_cases x3 : f < t
  case neg =>
    have h3 : decide (t ≤ f) = true := by simp; omega
    have HR := Lib.hid (segB_no (f := f) (t := t) (m := m) (cs := cs) (.inr (.inr (.inr (.inr (.inl (by simp; omega))))))).symm
    go_enter Try.func115, Try.ntmps115
    go_wp2_with (first
      | (go_at_call 114; refine (isPosition_c _ _).mono ?_; rintro e w' ⟨rfl, rfl⟩; first | rw [H1.out] | rw [H2.out])
      | (go_at_call 140; refine (isTime_c _ _).mono ?_; rintro e w' ⟨rfl, rfl⟩; fail))
    go_ret
    exact ⟨ret_bool HR.out, (Nx.refl _).alloc _⟩
  have h3 : decide (t ≤ f) = false := by simp; omega
  cases x4 : inB 0 999999 m with
  | false =>
    have H4 := Lib.hid x4
    clear x4
    have HR := Lib.hid (segB_no (f := f) (t := t) (m := m) (cs := cs) (.inr (.inr (.inr (.inr (.inr (.inl H4.out))))))).symm
    go_enter Try.func115, Try.ntmps115
    go_wp2_with (first
      | (go_at_call 114; refine (isPosition_c _ _).mono ?_; rintro e w' ⟨rfl, rfl⟩; first | rw [H1.out] | rw [H2.out])
      | (go_at_call 140; refine (isTime_c _ _).mono ?_; rintro e w' ⟨rfl, rfl⟩; rw [H4.out]))
    go_ret
    exact ⟨ret_bool HR.out, (Nx.refl _).alloc _⟩
  | true =>
  have H4 := Lib.hid x4
  clear x4
  go_enter Try.func115, Try.ntmps115
  go_wp2_with (first
      | (go_at_call 114; refine (isPosition_c _ _).mono ?_; rintro e w' ⟨rfl, rfl⟩; first | rw [H1.out] | rw [H2.out])
      | (go_at_call 140; refine (isTime_c _ _).mono ?_; rintro e w' ⟨rfl, rfl⟩; rw [H4.out]))
  have b0 := Box.new w 54 #[.int .i64 f, .int .i64 t, .int .i64 m, .slice A cs.length c]
  have hx0 := (Nx.refl w).alloc (.cells #[.int .i64 f, .int .i64 t, .int .i64 m, .slice A cs.length c] 54)
  generalize w.alloc (.cells #[.int .i64 f, .int .i64 t, .int .i64 m, .slice A cs.length c] 54) = W at *
  clear h3
  go_loopw [31] (fun i wr => ∃ k : Nat, k ≤ cs.length ∧ i = .int .i64 k ∧ OkTo cs k ∧ Nx W wr) (fun i _ => cs.length - (intOf i).toNat)
  case atStart => exact ⟨0, Nat.zero_le _, rfl, OkTo.zero _, Nx.refl _⟩
  case round =>
    obtain ⟨k, hk, rfl, hto, hnx⟩ := hrel
    obtain ⟨_, _, _, c3⟩ := (b0.nx hnx).d4
    by_cases hlt : k < cs.length
    · obtain ⟨b, off, rfl, hb, k0, k1, k2⟩ := (h.below (hx0.trans hnx) hB).at_ hlt
      obtain ⟨⟨q0, q1, q2⟩, Hq⟩ : ∃ q, Hid (cs.getD k chZ = q) := ⟨_, rfl⟩
      rw [Hq.out] at k0 k1 k2
      cases hch : chB (q0, q1, q2) with
      | false =>
        have HC := Lib.hid hch
        have HR := Lib.hid (segB_no (f := f) (t := t) (m := m) (cs := cs) (.inr (.inr (.inr (.inr (.inr (.inr (chsB_no hlt (by unfold okCh; rw [Hq.out, hch]; rfl))))))))).symm
        clear hch
        go_wp2_with fail
        have bq := Box.new wr 84 #[.int .i64 q0, .int .i64 q1, .int .i64 q2]
        have hnxq := hnx.alloc (.cells #[.int .i64 q0, .int .i64 q1, .int .i64 q2] 84)
        have b1 := (b0.nx hnx).alloc (.cells #[.int .i64 q0, .int .i64 q1, .int .i64 q2] 84)
        generalize wr.alloc (.cells #[.int .i64 q0, .int .i64 q1, .int .i64 q2] 84) = wq at *
        clear c3 k0 k1 k2
        obtain ⟨_, _, _, c3⟩ := b1.d4
        obtain ⟨k0, k1, k2⟩ := bq.d3
        have hbv : w.heap.size < wq.heap.size := b1.lt
        refine wp_region_lex [false, true, false, false, false, false, false, false, false, false, false, false, false, false, false, false, false, false, false] (fun w' => w'.cell? ⟨w.heap.size, 3, none⟩ = some (.slice (some ⟨b, off, none⟩) cs.length c) ∧ w'.cell? ⟨wr.heap.size, 0, none⟩ = some (.int .i64 q0) ∧ w'.cell? ⟨wr.heap.size, 1, none⟩ = some (.int .i64 q1) ∧ w'.cell? ⟨wr.heap.size, 2, none⟩ = some (.int .i64 q2)) (by kernel_rfl) (by kernel_rfl) rfl (by kernel_rfl) (fun _ _ d _ _ h => by cases d <;> exact h) (by exact ⟨c3, k0, k1, k2⟩) ?_
        repeat (first | (refine HL.take (v := ?_) (by rfl) ?_ ?_; rotate_left; (· (intro w hSw; (try dsimp only at hSw); go_simp; try with_reducible rfl)); (try simp only [Act.put, List.setIfInBounds_toArray, List.set_cons_zero, List.set_cons_succ])) | (refine HL.skip (by rfl) ?_; (try simp only [Act.put, List.setIfInBounds_toArray, List.set_cons_zero, List.set_cons_succ])))
        refine HL.call (by rfl) (fun K hK => ?_)
        go_simp
        refine (changeRight_c q0 q1 q2 _).mono ?_; rintro e w1 ⟨rfl, hnx1⟩; rw [HC.out]; have d3 := (hnx1.cell (p := ⟨w.heap.size, 3, none⟩) hbv).trans c3; have l0 := (hnx1.cell (p := ⟨wr.heap.size, 0, none⟩) bq.lt).trans k0; have l1 := (hnx1.cell (p := ⟨wr.heap.size, 1, none⟩) bq.lt).trans k1; have l2 := (hnx1.cell (p := ⟨wr.heap.size, 2, none⟩) bq.lt).trans k2
        go_wp2_with fail
        refine hK.out _ _ (by exact ⟨d3, l0, l1, l2⟩) ?_
        clear hK K
        try simp only [Act.put, List.setIfInBounds_toArray, List.set_cons_zero, List.set_cons_succ]
        repeat (first | (refine HL.take (v := ?_) (by rfl) ?_ ?_; rotate_left; (· (intro w hSw; (try dsimp only at hSw); go_simp; try with_reducible rfl)); (try simp only [Act.put, List.setIfInBounds_toArray, List.set_cons_zero, List.set_cons_succ])) | (refine HL.skip (by rfl) ?_; (try simp only [Act.put, List.setIfInBounds_toArray, List.set_cons_zero, List.set_cons_succ])))
        refine HL.done ?_
        go_wp2
        go_ret
        exact ⟨ret_bool HR.out, hx0.trans (hnxq.drew.trans hnx1)⟩
      | true =>
        have HC := Lib.hid hch
        clear hch
        by_cases hk0 : k = 0
        · have hd0 : decide (0 < (k : Int)) = false := by simp; omega
          have hd1 : decide (0 < k) = false := by simp; omega
          have HO := Lib.hid (show okCh cs k = true by unfold okCh; rw [Hq.out, HC.out, hk0]; rfl)
          clear hk0
          go_wp2_with fail
          have bq := Box.new wr 84 #[.int .i64 q0, .int .i64 q1, .int .i64 q2]
          have hnxq := hnx.alloc (.cells #[.int .i64 q0, .int .i64 q1, .int .i64 q2] 84)
          have b1 := (b0.nx hnx).alloc (.cells #[.int .i64 q0, .int .i64 q1, .int .i64 q2] 84)
          generalize wr.alloc (.cells #[.int .i64 q0, .int .i64 q1, .int .i64 q2] 84) = wq at *
          clear c3 k0 k1 k2
          obtain ⟨_, _, _, c3⟩ := b1.d4
          obtain ⟨k0, k1, k2⟩ := bq.d3
          have hbv : w.heap.size < wq.heap.size := b1.lt
          refine wp_region_lex [false, true, false, false, false, false, false, false, false, false, false, false, false, false, false, false, false, false, false] (fun w' => w'.cell? ⟨w.heap.size, 3, none⟩ = some (.slice (some ⟨b, off, none⟩) cs.length c) ∧ w'.cell? ⟨wr.heap.size, 0, none⟩ = some (.int .i64 q0) ∧ w'.cell? ⟨wr.heap.size, 1, none⟩ = some (.int .i64 q1) ∧ w'.cell? ⟨wr.heap.size, 2, none⟩ = some (.int .i64 q2)) (by kernel_rfl) (by kernel_rfl) rfl (by kernel_rfl) (fun _ _ d _ _ h => by cases d <;> exact h) (by exact ⟨c3, k0, k1, k2⟩) ?_
          repeat (first | (refine HL.take (v := ?_) (by rfl) ?_ ?_; rotate_left; (· (intro w hSw; (try dsimp only at hSw); go_simp; try with_reducible rfl)); (try simp only [Act.put, List.setIfInBounds_toArray, List.set_cons_zero, List.set_cons_succ])) | (refine HL.skip (by rfl) ?_; (try simp only [Act.put, List.setIfInBounds_toArray, List.set_cons_zero, List.set_cons_succ])))
          refine HL.call (by rfl) (fun K hK => ?_)
          go_simp
          refine (changeRight_c q0 q1 q2 _).mono ?_; rintro e w1 ⟨rfl, hnx1⟩; rw [HC.out]; have d3 := (hnx1.cell (p := ⟨w.heap.size, 3, none⟩) hbv).trans c3; have l0 := (hnx1.cell (p := ⟨wr.heap.size, 0, none⟩) bq.lt).trans k0; have l1 := (hnx1.cell (p := ⟨wr.heap.size, 1, none⟩) bq.lt).trans k1; have l2 := (hnx1.cell (p := ⟨wr.heap.size, 2, none⟩) bq.lt).trans k2
          go_wp2_with fail
          refine hK.out _ _ (by exact ⟨d3, l0, l1, l2⟩) ?_
          clear hK K
          try simp only [Act.put, List.setIfInBounds_toArray, List.set_cons_zero, List.set_cons_succ]
          repeat (first | (refine HL.take (v := ?_) (by rfl) ?_ ?_; rotate_left; (· (intro w hSw; (try dsimp only at hSw); go_simp; try with_reducible rfl)); (try simp only [Act.put, List.setIfInBounds_toArray, List.set_cons_zero, List.set_cons_succ])) | (refine HL.skip (by rfl) ?_; (try simp only [Act.put, List.setIfInBounds_toArray, List.set_cons_zero, List.set_cons_succ])))
          refine HL.done ?_
          go_wp2
          go_roundw
          case rel => exact ⟨k + 1, by omega, by go_num, hto.succ HO.out, hnxq.drew.trans hnx1⟩
          case measure => simp [intOf]; omega
        · obtain ⟨j, rfl⟩ : ∃ j, k = j + 1 := ⟨k - 1, by omega⟩
          obtain ⟨b', off', he, _, m0, _, _⟩ := (h.below (hx0.trans hnx) hB).at_ (k := j) (by omega)
          obtain ⟨rfl, rfl⟩ : b = b' ∧ off = off' := by simpa using he
          clear he
          obtain ⟨⟨r0, r1, r2⟩, Hr⟩ : ∃ q, Hid (cs.getD j chZ = q) := ⟨_, rfl⟩
          rw [Hr.out] at m0
          have hb2 : b < wr.heap.size := by have := hx0.size; have := hnx.size; omega
          have hd0 : decide (0 < ((j : Int) + 1)) = true := by simp
          have hd1 : decide (0 < j + 1) = true := by simp
          have hi1 : (0 : Int) ≤ (j : Int) + 1 := by omega
          have hi2 : (j : Int) + 1 < (cs.length : Int) := by omega
          have hi4 : (j : Int) < (cs.length : Int) := by omega
          have hi5 : j < cs.length := by omega
          have hi6 : (0 : Int) ≤ (j : Int) := by omega
          by_cases hlt2 : r0 < q0
          · have hd : decide (q0 ≤ r0) = false := by simp; omega
            have HO := Lib.hid (show okCh cs (j + 1) = true by unfold okCh; rw [Hq.out, HC.out, Nat.add_sub_cancel, Hr.out]; simp [hlt2])
            go_wp2_with fail
            have bq := Box.new wr 84 #[.int .i64 q0, .int .i64 q1, .int .i64 q2]
            have hnxq := hnx.alloc (.cells #[.int .i64 q0, .int .i64 q1, .int .i64 q2] 84)
            have b1 := (b0.nx hnx).alloc (.cells #[.int .i64 q0, .int .i64 q1, .int .i64 q2] 84)
            replace m0 := (((Nx.refl wr).alloc (.cells #[.int .i64 q0, .int .i64 q1, .int .i64 q2] 84)).cell (p := ⟨b, off + j * 3, none⟩) hb2).trans m0
            generalize wr.alloc (.cells #[.int .i64 q0, .int .i64 q1, .int .i64 q2] 84) = wq at *
            clear c3 k0 k1 k2
            obtain ⟨_, _, _, c3⟩ := b1.d4
            obtain ⟨k0, k1, k2⟩ := bq.d3
            have hbv : w.heap.size < wq.heap.size := b1.lt
            have hbw : b < wq.heap.size := by have := bq.lt; omega
            have hi3 : ((j : Int) + 1).toNat = j + 1 := by omega
            have hw1 : IntKind.i64.wrap ((j : Int) + 1 - 1) = (j : Int) := by rw [Int.add_sub_cancel]; exact IntWalk.i64_in _ (by omega)
            have hw2 : IntKind.i64.wrap (j : Int) = (j : Int) := IntWalk.i64_in _ (by omega)
            refine wp_region_lex [false, true, false, false, false, false, false, false, false, false, false, false, false, false, false, false, false, false, false] (fun w' => w'.cell? ⟨w.heap.size, 3, none⟩ = some (.slice (some ⟨b, off, none⟩) cs.length c) ∧ w'.cell? ⟨wr.heap.size, 0, none⟩ = some (.int .i64 q0) ∧ w'.cell? ⟨wr.heap.size, 1, none⟩ = some (.int .i64 q1) ∧ w'.cell? ⟨wr.heap.size, 2, none⟩ = some (.int .i64 q2) ∧ w'.cell? ⟨b, off + j * 3, none⟩ = some (.int .i64 r0)) (by kernel_rfl) (by kernel_rfl) rfl (by kernel_rfl) (fun _ _ d _ _ h => by cases d <;> exact h) (by exact ⟨c3, k0, k1, k2, m0⟩) ?_
            repeat (first | (refine HL.take (v := ?_) (by rfl) ?_ ?_; rotate_left; (· (intro w hSw; (try dsimp only at hSw); go_simp; try with_reducible rfl)); (try simp only [Act.put, List.setIfInBounds_toArray, List.set_cons_zero, List.set_cons_succ])) | (refine HL.skip (by rfl) ?_; (try simp only [Act.put, List.setIfInBounds_toArray, List.set_cons_zero, List.set_cons_succ])))
            refine HL.call (by rfl) (fun K hK => ?_)
            go_simp
            refine (changeRight_c q0 q1 q2 _).mono ?_; rintro e w1 ⟨rfl, hnx1⟩; rw [HC.out]; have d3 := (hnx1.cell (p := ⟨w.heap.size, 3, none⟩) hbv).trans c3; have l0 := (hnx1.cell (p := ⟨wr.heap.size, 0, none⟩) bq.lt).trans k0; have l1 := (hnx1.cell (p := ⟨wr.heap.size, 1, none⟩) bq.lt).trans k1; have l2 := (hnx1.cell (p := ⟨wr.heap.size, 2, none⟩) bq.lt).trans k2; have n0 := (hnx1.cell (p := ⟨b, off + j * 3, none⟩) hbw).trans m0
            go_wp2_with fail
            refine hK.out _ _ (by exact ⟨d3, l0, l1, l2, n0⟩) ?_
            clear hK K
            try simp only [Act.put, List.setIfInBounds_toArray, List.set_cons_zero, List.set_cons_succ]
            repeat (first | (refine HL.take (v := ?_) (by rfl) ?_ ?_; rotate_left; (· (intro w hSw; (try dsimp only at hSw); go_simp; try with_reducible rfl)); (try simp only [Act.put, List.setIfInBounds_toArray, List.set_cons_zero, List.set_cons_succ])) | (refine HL.skip (by rfl) ?_; (try simp only [Act.put, List.setIfInBounds_toArray, List.set_cons_zero, List.set_cons_succ])))
            refine HL.done ?_
            clear hw1 hw2 hi6 hi1 hi2 hi3 hi4 hi5
            go_wp2
            go_roundw
            case rel => exact ⟨j + 1 + 1, by omega, by go_num, hto.succ HO.out, hnxq.drew.trans hnx1⟩
            case measure => simp [intOf]; omega
          · have hd : decide (q0 ≤ r0) = true := by simp; omega
            have HR := Lib.hid (segB_no (f := f) (t := t) (m := m) (cs := cs) (.inr (.inr (.inr (.inr (.inr (.inr (chsB_no hlt (by unfold okCh; rw [Hq.out, Nat.add_sub_cancel, Hr.out]; simp [hlt2]))))))))).symm
            go_wp2_with fail
            have bq := Box.new wr 84 #[.int .i64 q0, .int .i64 q1, .int .i64 q2]
            have hnxq := hnx.alloc (.cells #[.int .i64 q0, .int .i64 q1, .int .i64 q2] 84)
            have b1 := (b0.nx hnx).alloc (.cells #[.int .i64 q0, .int .i64 q1, .int .i64 q2] 84)
            replace m0 := (((Nx.refl wr).alloc (.cells #[.int .i64 q0, .int .i64 q1, .int .i64 q2] 84)).cell (p := ⟨b, off + j * 3, none⟩) hb2).trans m0
            generalize wr.alloc (.cells #[.int .i64 q0, .int .i64 q1, .int .i64 q2] 84) = wq at *
            clear c3 k0 k1 k2
            obtain ⟨_, _, _, c3⟩ := b1.d4
            obtain ⟨k0, k1, k2⟩ := bq.d3
            have hbv : w.heap.size < wq.heap.size := b1.lt
            have hbw : b < wq.heap.size := by have := bq.lt; omega
            have hi3 : ((j : Int) + 1).toNat = j + 1 := by omega
            have hw1 : IntKind.i64.wrap ((j : Int) + 1 - 1) = (j : Int) := by rw [Int.add_sub_cancel]; exact IntWalk.i64_in _ (by omega)
            have hw2 : IntKind.i64.wrap (j : Int) = (j : Int) := IntWalk.i64_in _ (by omega)
            refine wp_region_lex [false, true, false, false, false, false, false, false, false, false, false, false, false, false, false, false, false, false, false] (fun w' => w'.cell? ⟨w.heap.size, 3, none⟩ = some (.slice (some ⟨b, off, none⟩) cs.length c) ∧ w'.cell? ⟨wr.heap.size, 0, none⟩ = some (.int .i64 q0) ∧ w'.cell? ⟨wr.heap.size, 1, none⟩ = some (.int .i64 q1) ∧ w'.cell? ⟨wr.heap.size, 2, none⟩ = some (.int .i64 q2) ∧ w'.cell? ⟨b, off + j * 3, none⟩ = some (.int .i64 r0)) (by kernel_rfl) (by kernel_rfl) rfl (by kernel_rfl) (fun _ _ d _ _ h => by cases d <;> exact h) (by exact ⟨c3, k0, k1, k2, m0⟩) ?_
            repeat (first | (refine HL.take (v := ?_) (by rfl) ?_ ?_; rotate_left; (· (intro w hSw; (try dsimp only at hSw); go_simp; try with_reducible rfl)); (try simp only [Act.put, List.setIfInBounds_toArray, List.set_cons_zero, List.set_cons_succ])) | (refine HL.skip (by rfl) ?_; (try simp only [Act.put, List.setIfInBounds_toArray, List.set_cons_zero, List.set_cons_succ])))
            refine HL.call (by rfl) (fun K hK => ?_)
            go_simp
            refine (changeRight_c q0 q1 q2 _).mono ?_; rintro e w1 ⟨rfl, hnx1⟩; rw [HC.out]; have d3 := (hnx1.cell (p := ⟨w.heap.size, 3, none⟩) hbv).trans c3; have l0 := (hnx1.cell (p := ⟨wr.heap.size, 0, none⟩) bq.lt).trans k0; have l1 := (hnx1.cell (p := ⟨wr.heap.size, 1, none⟩) bq.lt).trans k1; have l2 := (hnx1.cell (p := ⟨wr.heap.size, 2, none⟩) bq.lt).trans k2; have n0 := (hnx1.cell (p := ⟨b, off + j * 3, none⟩) hbw).trans m0
            go_wp2_with fail
            refine hK.out _ _ (by exact ⟨d3, l0, l1, l2, n0⟩) ?_
            clear hK K
            try simp only [Act.put, List.setIfInBounds_toArray, List.set_cons_zero, List.set_cons_succ]
            repeat (first | (refine HL.take (v := ?_) (by rfl) ?_ ?_; rotate_left; (· (intro w hSw; (try dsimp only at hSw); go_simp; try with_reducible rfl)); (try simp only [Act.put, List.setIfInBounds_toArray, List.set_cons_zero, List.set_cons_succ])) | (refine HL.skip (by rfl) ?_; (try simp only [Act.put, List.setIfInBounds_toArray, List.set_cons_zero, List.set_cons_succ])))
            refine HL.done ?_
            clear hw1 hw2 hi6 hi1 hi2 hi3 hi4 hi5
            go_wp2
            go_ret
            exact ⟨ret_bool HR.out, hx0.trans (hnxq.drew.trans hnx1)⟩
    · obtain rfl : k = cs.length := by omega
      have HR := Lib.hid (segB_mk hf0 x3 ht1 H4.out hto.all).symm
      go_wp2
      go_ret
      exact ⟨ret_bool HR.out, hx0.trans hnx⟩
end Go.Proofs.Ytihpadelfpogmaa
/- A region that draws its order, walked by a plan: operations that only read cells that stay as they are (S) are taken in whatever order the plan names; where two may come up, both orders are walked. Conditions: those of each theorem. -/
namespace Go.Proofs.Ytihpadelfpogmaa
set_option linter.unusedVariables false
set_option maxRecDepth 100000
open Go.RowKit
/-- A plan: its end; take k; meet k when it alone may come up; where j and k may come up, a plan behind each. -/
inductive Pl where
  | e
  | t (k : Nat) (r : Pl)
  | c (k : Nat) (r : Pl)
  | b (j : Nat) (r1 : Pl) (k : Nat) (r2 : Pl)
  | d (i : Nat) (r0 : Pl) (j : Nat) (r1 : Pl) (k : Nat) (r2 : Pl)
/-- .. with the operations. -/
inductive Ps where
  | e
  | t (o : Oper) (r : Ps)
  | c (o : Oper) (r : Ps)
  | b (oj : Oper) (r1 : Ps) (ok : Oper) (r2 : Ps)
  | d (oi : Oper) (r0 : Ps) (oj : Oper) (r1 : Ps) (ok : Oper) (r2 : Ps)
def noOp : Oper := { dst := none, op := Op.move (Operand.const undef), type := 0, pos := "", after := #[], guard := none }
def psOf (l : List Oper) : Pl → Ps
  | .e => .e
  | .t k r => .t (l.getD k noOp) (psOf l r)
  | .c k r => .c (l.getD k noOp) (psOf l r)
  | .b j r1 k r2 => .b (l.getD j noOp) (psOf l r1) (l.getD k noOp) (psOf l r2)
  | .d i r0 j r1 k r2 => .d (l.getD i noOp) (psOf l r0) (l.getD j noOp) (psOf l r1) (l.getD k noOp) (psOf l r2)
section
variable {P : Program} {ops : Array Oper} {Q : Exit → Act → World → Prop} {S : World → Prop}
def CallStep (P : Program) (ops : Array Oper) (Q : Exit → Act → World → Prop) (S : World → Prop) (o : Oper) (R : Act → World → Prop) (a : Act) (w : World) : Prop :=
  Region.wanted o (yielded ops a.tmps) = true ∧ ∀ K : Act → World → Prop, Hid (∀ a' w', S w' → R a' w' → K a' w') → o.wp P a w K Q
def HP (P : Program) (ops : Array Oper) (Q : Exit → Act → World → Prop) (S : World → Prop) : Ps → Act → World → Prop
  | .e, a, w => Q .normal a w
  | .t o r, a, w => ∃ v, YieldsIf P ops S o v a ∧ HP P ops Q S r (a.put o.dst v) w
  | .c o r, a, w => CallStep P ops Q S o (HP P ops Q S r) a w
  | .b oj r1 ok r2, a, w => CallStep P ops Q S oj (HP P ops Q S r1) a w ∧ CallStep P ops Q S ok (HP P ops Q S r2) a w
  | .d oi r0 oj r1 ok r2, a, w => CallStep P ops Q S oi (HP P ops Q S r0) a w ∧ CallStep P ops Q S oj (HP P ops Q S r1) a w ∧ CallStep P ops Q S ok (HP P ops Q S r2) a w
def steps : Pl → Nat
  | .e => 0
  | .t _ r => steps r + 1
  | .c _ r => steps r + 1
  | .b _ r1 _ _ => steps r1 + 1
  | .d _ r0 _ _ _ _ => steps r0 + 1
/-- What is asked of the region's edges alone. -/
def planB (md : Region.Mode) (ops : Array Oper) : Pl → Array Bool → Bool
  | .e, listed => Region.ready md ops listed == []
  | .t k r, listed => decide (k < ops.size) && (Region.ready md ops listed).contains k && Region.free md ops listed k && planB md ops r (listed.setIfInBounds k true)
  | .c k r, listed => decide (k < ops.size) && (Region.ready md ops listed == [k]) && planB md ops r (listed.setIfInBounds k true)
  | .b j r1 k r2, listed => decide (j < ops.size) && decide (k < ops.size) && (Region.ready md ops listed == [j, k]) && decide (steps r2 = steps r1) && planB md ops r1 (listed.setIfInBounds j true) && planB md ops r2 (listed.setIfInBounds k true)
  | .d i r0 j r1 k r2, listed => decide (i < ops.size) && decide (j < ops.size) && decide (k < ops.size) && (Region.ready md ops listed == [i, j, k]) && decide (steps r1 = steps r0) && decide (steps r2 = steps r0) && planB md ops r0 (listed.setIfInBounds i true) && planB md ops r1 (listed.setIfInBounds j true) && planB md ops r2 (listed.setIfInBounds k true)
theorem HP.take {o : Oper} {r : Ps} {a : Act} {w : World} {v : Value} (hw : Region.wanted o (yielded ops a.tmps) = true) (h : ∀ w, S w → (execOp a.eval o).run P w = .ok (.value v) w)
    (hr : HP P ops Q S r (a.put o.dst v) w) : HP P ops Q S (.t o r) a w := ⟨v, .inl ⟨hw, h⟩, hr⟩
theorem HP.skip {o : Oper} {r : Ps} {a : Act} {w : World} (hw : Region.wanted o (yielded ops a.tmps) = false) (hr : HP P ops Q S r (a.put o.dst undef) w) : HP P ops Q S (.t o r) a w := ⟨undef, .inr ⟨hw, rfl⟩, hr⟩
theorem HP.call {o : Oper} {r : Ps} {a : Act} {w : World} (h : CallStep P ops Q S o (HP P ops Q S r) a w) : HP P ops Q S (.c o r) a w := h
theorem HP.both {oj ok : Oper} {r1 r2 : Ps} {a : Act} {w : World} (h1 : CallStep P ops Q S oj (HP P ops Q S r1) a w) (h2 : CallStep P ops Q S ok (HP P ops Q S r2) a w) : HP P ops Q S (.b oj r1 ok r2) a w := ⟨h1, h2⟩
theorem HP.three {oi oj ok : Oper} {r0 r1 r2 : Ps} {a : Act} {w : World} (h0 : CallStep P ops Q S oi (HP P ops Q S r0) a w) (h1 : CallStep P ops Q S oj (HP P ops Q S r1) a w) (h2 : CallStep P ops Q S ok (HP P ops Q S r2) a w) : HP P ops Q S (.d oi r0 oj r1 ok r2) a w := ⟨h0, h1, h2⟩
theorem HP.done {a : Act} {w : World} (h : Q .normal a w) : HP P ops Q S .e a w := h
theorem CallStep.mk {o : Oper} {R : Act → World → Prop} {a : Act} {w : World} (hw : Region.wanted o (yielded ops a.tmps) = true)
    (h : ∀ K : Act → World → Prop, Hid (∀ a' w', S w' → R a' w' → K a' w') → o.wp P a w K Q) : CallStep P ops Q S o R a w := ⟨hw, h⟩
theorem CallStep.op {k : Nat} {o : Oper} {R K : Act → World → Prop} {a : Act} {w : World} (h : CallStep P ops Q S o R a w) (h0 : ops[k]? = some o) (hK : ∀ a' w', S w' → R a' w' → K a' w') : wpOp P ops Q k K a w := by
  unfold wpOp
  simp only [h0, h.1, if_true]
  exact .inl (h.2 _ (Lib.hid hK))
theorem getD_op {l : List Oper} {k : Nat} (h : k < l.toArray.size) : l.toArray[k]? = some (l.getD k noOp) := by
  have h' : k < l.length := by simpa using h
  rw [List.getElem?_toArray, List.getD_eq_getElem?_getD, List.getElem?_eq_getElem h']; rfl
theorem HP.any {md : Region.Mode} {l : List Oper} (hs : Region.noSelect l.toArray = true) (hQ : ∀ c a d v w, Q (.panic c) (Act.put a d v) w → Q (.panic c) a w) :
    ∀ (ks : Pl) (listed : Array Bool) (a : Act) (w : World), planB md l.toArray ks listed = true → S w → HP P l.toArray Q S (psOf l ks) a w → wpAnyH P md l.toArray Q S (steps ks) listed a w
  | .e, listed, a, w, hB, _, h => wpAnyH_done (by simpa [planB] using hB) h _
  | .t k r, listed, a, w, hB, hS, h => by
    simp only [planB, Bool.and_eq_true, decide_eq_true_eq] at hB
    obtain ⟨⟨⟨hk, hr⟩, hf⟩, hB'⟩ := hB
    obtain ⟨v, hy, hK⟩ := h
    exact wpAnyH_take (getD_op hk) hs hf hr (fun c a w => hQ c a _ _ w) hy hS (HP.any hs hQ r _ _ w hB' hS hK)
  | .c k r, listed, a, w, hB, hS, h => by
    simp only [planB, Bool.and_eq_true, decide_eq_true_eq, beq_iff_eq] at hB
    obtain ⟨⟨hk, hr⟩, hB'⟩ := hB
    refine wpAnyH_all hr (by simp) fun i hi => ?_
    obtain rfl : i = k := by simpa using hi
    exact CallStep.op h (getD_op hk) fun a' w' hS' h' => ⟨hS', HP.any hs hQ r _ a' w' hB' hS' h'⟩
  | .b j r1 k r2, listed, a, w, hB, hS, h => by
    simp only [planB, Bool.and_eq_true, decide_eq_true_eq, beq_iff_eq] at hB
    obtain ⟨⟨⟨⟨⟨hj, hk⟩, hr⟩, hst⟩, hB1⟩, hB2⟩ := hB
    refine wpAnyH_all hr (by simp) fun i hi => ?_
    rcases (show i = j ∨ i = k by simpa using hi) with rfl | rfl
    · exact CallStep.op h.1 (getD_op hj) fun a' w' hS' h' => ⟨hS', HP.any hs hQ r1 _ a' w' hB1 hS' h'⟩
    · exact CallStep.op h.2 (getD_op hk) fun a' w' hS' h' => ⟨hS', by have := HP.any hs hQ r2 _ a' w' hB2 hS' h'; rw [hst] at this; exact this⟩
  | .d i r0 j r1 k r2, listed, a, w, hB, hS, h => by
    simp only [planB, Bool.and_eq_true, decide_eq_true_eq, beq_iff_eq] at hB
    obtain ⟨⟨⟨⟨⟨⟨⟨⟨hi, hj⟩, hk⟩, hr⟩, hst1⟩, hst2⟩, hB0⟩, hB1⟩, hB2⟩ := hB
    refine wpAnyH_all hr (by simp) fun x hx => ?_
    rcases (show x = i ∨ x = j ∨ x = k by simpa using hx) with rfl | rfl | rfl
    · exact CallStep.op h.1 (getD_op hi) fun a' w' hS' h' => ⟨hS', HP.any hs hQ r0 _ a' w' hB0 hS' h'⟩
    · exact CallStep.op h.2.1 (getD_op hj) fun a' w' hS' h' => ⟨hS', by have := HP.any hs hQ r1 _ a' w' hB1 hS' h'; rw [hst1] at this; exact this⟩
    · exact CallStep.op h.2.2 (getD_op hk) fun a' w' hS' h' => ⟨hS', by have := HP.any hs hQ r2 _ a' w' hB2 hS' h'; rw [hst2] at this; exact this⟩
/-- The region. -/
theorem wp_region_plan {id : Nat} {a : Act} {w : World} {l : List Oper} (ks : Pl) (S : World → Prop) (hm : P.follows .mixedOrders = true) (hs : Region.noSelect l.toArray = true) (hl : l.length = steps ks)
    (hB : planB .any l.toArray ks (Array.replicate l.toArray.size false) = true) (hQ : ∀ c a d v w, Q (.panic c) (Act.put a d v) w → Q (.panic c) a w) (hS : S w.drew)
    (h : HP P l.toArray Q S (psOf l ks) a w.drew) : (Code.region id l.toArray true).wp P Q a w := by
  refine wp_region_held_drew (S := S) hm hS fun _ => ?_
  have := HP.any (md := .any) hs hQ ks (Array.replicate l.toArray.size false) a w.drew hB hS h
  have e : l.toArray.size = steps ks := by simpa using hl
  rw [e]
  rw [e] at this
  exact this
end
end Go.Proofs.Ytihpadelfpogmaa
/- Contracts of the program's contentCode, turnCode, Forward and Backward. Conditions: the list and the segment can be read, and hold at most 1048576 elements each. -/
namespace Go.Proofs.Ytihpadelfpogmaa
set_option linter.unusedVariables false
set_option maxRecDepth 100000
open Go.RowKit

/-- The code of a content and of what is asked beside it. -/
def askC (xs : List Int) (ok : Bool) : Int := if 4096 < xs.length then 2 else if contB xs && ok then 0 else 1
/-- A content that was turned, and its code. -/
def RetIC (w : World) (ys : List Int) (cd : Int) (e : Ending) (w' : World) : Prop := ∃ (A : Option Addr) (c : Nat), e = .returned (.tuple #[.slice A ys.length c, .int .i64 cd]) ∧ SlI w' w.heap.size A ys ∧ Nx w w'
def fwV (p : Chg → Int) (xs : List Int) (ok : Bool) (cs : List Chg) : List Int := if contB xs && ok then app p xs cs else []
theorem askC_long {xs : List Int} (h : 4096 < xs.length) (ok : Bool) : askC xs ok = 2 ∧ contB xs = false := ⟨by unfold askC; rw [if_pos h], contB_len (by omega)⟩
theorem askC_short {xs : List Int} (h : ¬ 4096 < xs.length) {a b : Bool} (ha : contB xs = a) (hb : b = b) : askC xs b = if a && b then 0 else 1 := by unfold askC; rw [if_neg h, ha]
theorem fwV_no {p : Chg → Int} {xs : List Int} {ok : Bool} {cs : List Chg} (h : (contB xs && ok) = false) : fwV p xs ok cs = [] := by unfold fwV; rw [h]; rfl
theorem fwV_yes {p : Chg → Int} {xs : List Int} {ok : Bool} {cs : List Chg} (h : (contB xs && ok) = true) : fwV p xs ok cs = app p xs cs := by unfold fwV; rw [h]; rfl

set_option maxHeartbeats 1000000 in
theorem contentCode_c (A : Option Addr) (c B : Nat) (xs : List Int) (w : World) (h : Ins w B A xs) (hB : B ≤ w.heap.size) (hn : xs.length ≤ 1048576) :
    Calls Try.prog 91 #[.slice A xs.length c] w fun e w' => e = .returned (.int .i64 (askC xs true)) ∧ Nx w w' := by
  by_cases hl : 4096 < xs.length
  · have hd : decide (4096 < (xs.length : Int)) = true := by simp; omega
    have HR := Lib.hid (askC_long hl true).1.symm
    go_enter Try.func91, Try.ntmps91
    go_wp2
    go_ret
    exact ⟨ret_int HR.out, Nx.refl _⟩
  have hd : decide (4096 < (xs.length : Int)) = false := by simp; omega
  cases hc : contB xs <;> (
    have HC := Lib.hid hc
    have HR := Lib.hid (askC_short hl hc (rfl : true = true)).symm
    clear hc
    go_enter Try.func91, Try.ntmps91
    go_wp2_with fail
    refine (implContentOK_c A c B xs _ h hB hn).mono ?_
    rintro e w1 ⟨rfl, hx1⟩
    rw [HC.out]
    go_wp2
    go_ret
    exact ⟨ret_int HR.out, hx1⟩)

set_option maxHeartbeats 1000000 in
theorem turnCode_c (A2 : Option Addr) (c2 B : Nat) (xs : List Int) (f t m : Int) (A : Option Addr) (c : Nat) (cs : List Chg) (w : World) (h : Ins w B A2 xs) (hg : Chs w B A cs) (hB : B ≤ w.heap.size) (hn : xs.length ≤ 1048576) (hn2 : cs.length ≤ 1048576) :
    Calls Try.prog 109 #[.slice A2 xs.length c2, .agg #[.int .i64 f, .int .i64 t, .int .i64 m, .slice A cs.length c]] w fun e w' => e = .returned (.int .i64 (askC xs (segB f t m cs))) ∧ Nx w w' := by
  have b0 := Box.new w 54 #[.int .i64 f, .int .i64 t, .int .i64 m, .slice A cs.length c]
  have hx0 := (Nx.refl w).alloc (.cells #[.int .i64 f, .int .i64 t, .int .i64 m, .slice A cs.length c] 54)
  obtain ⟨z, Hz⟩ : ∃ z, Hid (askC xs true = z) := ⟨_, rfl⟩
  by_cases hz : z = 0
  case neg =>
    have hd : (z != 0) = true := by simp [hz]
    have HR := Lib.hid (show askC xs (segB f t m cs) = z by
      have := Hz.out
      unfold askC at this ⊢
      by_cases hl : 4096 < xs.length
      · rw [if_pos hl] at this ⊢; exact this
      · rw [if_neg hl] at this ⊢
        cases hc : contB xs <;> rw [hc] at this <;> simp_all)
    go_enter Try.func109, Try.ntmps109
    go_wp2_with fail
    refine (contentCode_c A2 c2 B xs _ (h.below hx0 hB) (Nat.le_trans hB hx0.size) hn).mono ?_
    rintro e w1 ⟨rfl, hx1⟩
    rw [Hz.out]
    go_wp2
    go_ret
    exact ⟨ret_int HR.out.symm, hx0.trans hx1⟩
  subst hz
  have HC := Lib.hid (show ¬ 4096 < xs.length ∧ contB xs = true by
    have := Hz.out
    unfold askC at this
    by_cases hl : 4096 < xs.length
    · rw [if_pos hl] at this; omega
    · rw [if_neg hl] at this
      cases hc : contB xs
      · rw [hc] at this; simp at this
      · exact ⟨hl, rfl⟩)
  generalize w.alloc (.cells #[.int .i64 f, .int .i64 t, .int .i64 m, .slice A cs.length c] 54) = W at *
  cases hs : segB f t m cs <;> (
    have HS := Lib.hid hs
    have HR := Lib.hid (askC_short HC.out.1 HC.out.2 (rfl : segB f t m cs = segB f t m cs)).symm
    rw [hs] at HR
    clear hs
    go_enter Try.func109, Try.ntmps109
    go_wp2_with fail
    have b1 := Box.new w 54 #[.int .i64 f, .int .i64 t, .int .i64 m, .slice A cs.length c]
    have hx1 := (Nx.refl w).alloc (.cells #[.int .i64 f, .int .i64 t, .int .i64 m, .slice A cs.length c] 54)
    generalize w.alloc (.cells #[.int .i64 f, .int .i64 t, .int .i64 m, .slice A cs.length c] 54) = W1 at *
    refine (contentCode_c A2 c2 B xs _ (h.below hx1 hB) (Nat.le_trans hB hx1.size) hn).mono ?_
    rintro e w1 ⟨rfl, hx2⟩
    rw [Hz.out]
    obtain ⟨k0, k1, k2, k3⟩ := (b1.nx hx2).d4
    have hx3 := hx1.trans hx2
    go_wp2_with fail
    refine (segRight_c f t m A c B cs _ (hg.below hx3 hB) (Nat.le_trans hB hx3.size) hn2).mono ?_
    rintro e w2 ⟨rfl, hx4⟩
    rw [HS.out]
    go_wp2
    go_ret
    exact ⟨ret_int HR.out, hx3.trans hx4⟩)

set_option maxRecDepth 100000 in
set_option maxHeartbeats 4000000 in
theorem implForward_c (A2 : Option Addr) (c2 B : Nat) (xs : List Int) (f t m : Int) (A : Option Addr) (c : Nat) (cs : List Chg) (w : World) (h : Ins w B A2 xs) (hg : Chs w B A cs) (hB : B ≤ w.heap.size) (hn : xs.length ≤ 1048576) (hn2 : cs.length ≤ 1048576) :
    Calls Try.prog 50 #[.slice A2 xs.length c2, .agg #[.int .i64 f, .int .i64 t, .int .i64 m, .slice A cs.length c]] w (RetIC w (fwV pN xs (segB f t m cs) cs) (askC xs (segB f t m cs))) := by
  obtain ⟨z, Hz⟩ : ∃ z, Hid (askC xs (segB f t m cs) = z) := ⟨_, rfl⟩
  by_cases hz : z = 0
  case neg =>
    have hd : (z != 0) = true := by simp [hz]
    have HF := Lib.hid (show fwV pN xs (segB f t m cs) cs = [] from fwV_no (by
      have := Hz.out
      unfold askC at this
      by_cases hl : 4096 < xs.length
      · rw [(askC_long hl true).2]; rfl
      · rw [if_neg hl] at this
        cases hc : (contB xs && segB f t m cs)
        · rfl
        · rw [hc] at this; exact absurd this.symm hz))
    go_enter Try.func50, Try.ntmps50
    go_wp2_with fail
    have hx1 := (Nx.refl w).alloc (.cells #[.int .i64 f, .int .i64 t, .int .i64 m, .slice A cs.length c] 54)
    generalize w.alloc (.cells #[.int .i64 f, .int .i64 t, .int .i64 m, .slice A cs.length c] 54) = W1 at *
    refine (turnCode_c A2 c2 B xs f t m A c cs _ (h.below hx1 hB) (hg.below hx1 hB) (Nat.le_trans hB hx1.size) hn hn2).mono ?_
    rintro e w1 ⟨rfl, hx2⟩
    rw [Hz.out]
    go_wp2
    exact bodyPost_ret (v := .tuple #[.slice none 0 0, .int .i64 z]) (by simp [results, Try.results50, go_sem]) rfl ⟨none, 0, by rw [HF.out, Hz.out]; rfl, by rw [HF.out]; exact Sl.none_ _ _ _ _ _, hx1.trans hx2⟩
  subst hz
  have HC := Lib.hid (show contB xs = true ∧ segB f t m cs = true by
    have := Hz.out
    unfold askC at this
    by_cases hl : 4096 < xs.length
    · rw [if_pos hl] at this; omega
    · rw [if_neg hl] at this
      cases hc : contB xs <;> cases hs : segB f t m cs <;> rw [hc, hs] at this <;> simp at this ⊢)
  have HF := Lib.hid (show fwV pN xs (segB f t m cs) cs = app pN xs cs from fwV_yes (by rw [HC.out.1, HC.out.2]; rfl))
  have H8 := Lib.hid (contB_yes HC.out.1).1
  have HK := Lib.hid (show chsB cs = true by
    have := HC.out.2
    unfold segB at this
    simp only [Bool.and_eq_true] at this
    exact this.2)
  go_enter Try.func50, Try.ntmps50
  go_wp2_with fail
  have b1 := Box.new w 54 #[.int .i64 f, .int .i64 t, .int .i64 m, .slice A cs.length c]
  have hx1 := (Nx.refl w).alloc (.cells #[.int .i64 f, .int .i64 t, .int .i64 m, .slice A cs.length c] 54)
  generalize w.alloc (.cells #[.int .i64 f, .int .i64 t, .int .i64 m, .slice A cs.length c] 54) = W1 at *
  refine (turnCode_c A2 c2 B xs f t m A c cs _ (h.below hx1 hB) (hg.below hx1 hB) (Nat.le_trans hB hx1.size) hn hn2).mono ?_
  rintro e w1 ⟨rfl, hx2⟩
  rw [Hz.out]
  have b2 := b1.nx hx2
  have hX2 := hx1.trans hx2
  clear b1 hx1 hx2
  go_wp2_with fail
  refine wp_region_plan (.t 0 (.t 2 (.c 1 (.c 3 (.c 4 (.t 5 (.t 6 .e))))))) (fun w' => w'.cell? ⟨w.heap.size, 0, none⟩ = some (.int .i64 f) ∧ w'.cell? ⟨w.heap.size, 1, none⟩ = some (.int .i64 t) ∧ w'.cell? ⟨w.heap.size, 2, none⟩ = some (.int .i64 m) ∧ w'.cell? ⟨w.heap.size, 3, none⟩ = some (.slice A cs.length c)) (by kernel_rfl) (by kernel_rfl) rfl (by kernel_rfl) (fun _ _ d _ _ h => by cases d <;> exact h) (by exact (b2.d4)) ?_
  simp only [psOf, List.getD_cons_zero, List.getD_cons_succ]
  repeat (first | (refine HP.take (v := ?_) (by rfl) ?_ ?_; rotate_left; (· (intro w hSw; (try dsimp only at hSw); go_simp; try with_reducible rfl)); (try simp only [Act.put, List.setIfInBounds_toArray, List.set_cons_zero, List.set_cons_succ])) | (refine HP.skip (by rfl) ?_; (try simp only [Act.put, List.setIfInBounds_toArray, List.set_cons_zero, List.set_cons_succ])))
  refine HP.call ?_
  refine CallStep.mk (by rfl) (fun K hK => ?_)
  go_simp
  refine (valuesOf_c A2 c2 B xs _ (h.below hX2.drew hB) (Nat.le_trans hB hX2.drew.size) H8.out).mono ?_; rintro e v1 ⟨rfl, hv1⟩; have bv1 := b2.nx (Nx.drew_r hv1); have hXv1 := hX2.drew.trans hv1
  go_wp2_with fail
  refine hK.out _ _ (by exact bv1.d4) ?_
  clear hK K
  try simp only [Act.put, List.setIfInBounds_toArray, List.set_cons_zero, List.set_cons_succ]
  refine HP.call ?_
  refine CallStep.mk (by rfl) (fun K hK => ?_)
  go_simp
  refine (valuesForward_c f t m A c B cs xs _ (hg.below hXv1 hB) (Nat.le_trans hB hXv1.size) HK.out H8.out).mono ?_; rintro e v2 ⟨rfl, hv2⟩; have bv2 := bv1.nx hv2; have hXv2 := hXv1.trans hv2
  go_wp2_with fail
  refine hK.out _ _ (by exact bv2.d4) ?_
  clear hK K
  try simp only [Act.put, List.setIfInBounds_toArray, List.set_cons_zero, List.set_cons_succ]
  refine HP.call ?_
  refine CallStep.mk (by rfl) (fun K hK => ?_)
  go_simp
  refine (valuesList_c (app pN xs cs) _ (by rw [app_len]; exact H8.out)).mono ?_; rintro e v3 ⟨A9, c9, rfl, hS9, hv3⟩; have bv3 := bv2.nx hv3
  go_wp2_with fail
  refine hK.out _ _ (by exact bv3.d4) ?_
  clear hK K
  try simp only [Act.put, List.setIfInBounds_toArray, List.set_cons_zero, List.set_cons_succ]
  repeat (first | (refine HP.take (v := ?_) (by rfl) ?_ ?_; rotate_left; (· (intro w hSw; (try dsimp only at hSw); go_simp; try with_reducible rfl)); (try simp only [Act.put, List.setIfInBounds_toArray, List.set_cons_zero, List.set_cons_succ])) | (refine HP.skip (by rfl) ?_; (try simp only [Act.put, List.setIfInBounds_toArray, List.set_cons_zero, List.set_cons_succ])))
  refine HP.done ?_
  go_wp2
  exact bodyPost_ret (v := .tuple #[.slice A9 (app pN xs cs).length c9, .int .i64 0]) (by simp [results, Try.results50, go_sem]) rfl ⟨A9, c9, by rw [HF.out, Hz.out], by rw [HF.out]; exact hS9.low hXv2.size, hXv2.trans hv3⟩

set_option maxRecDepth 100000 in
set_option maxHeartbeats 4000000 in
theorem implBackward_c (A2 : Option Addr) (c2 B : Nat) (xs : List Int) (f t m : Int) (A : Option Addr) (c : Nat) (cs : List Chg) (w : World) (h : Ins w B A2 xs) (hg : Chs w B A cs) (hB : B ≤ w.heap.size) (hn : xs.length ≤ 1048576) (hn2 : cs.length ≤ 1048576) :
    Calls Try.prog 52 #[.slice A2 xs.length c2, .agg #[.int .i64 f, .int .i64 t, .int .i64 m, .slice A cs.length c]] w (RetIC w (fwV pO xs (segB f t m cs) cs) (askC xs (segB f t m cs))) := by
  obtain ⟨z, Hz⟩ : ∃ z, Hid (askC xs (segB f t m cs) = z) := ⟨_, rfl⟩
  by_cases hz : z = 0
  case neg =>
    have hd : (z != 0) = true := by simp [hz]
    have HF := Lib.hid (show fwV pO xs (segB f t m cs) cs = [] from fwV_no (by
      have := Hz.out
      unfold askC at this
      by_cases hl : 4096 < xs.length
      · rw [(askC_long hl true).2]; rfl
      · rw [if_neg hl] at this
        cases hc : (contB xs && segB f t m cs)
        · rfl
        · rw [hc] at this; exact absurd this.symm hz))
    go_enter Try.func52, Try.ntmps52
    go_wp2_with fail
    have hx1 := (Nx.refl w).alloc (.cells #[.int .i64 f, .int .i64 t, .int .i64 m, .slice A cs.length c] 54)
    generalize w.alloc (.cells #[.int .i64 f, .int .i64 t, .int .i64 m, .slice A cs.length c] 54) = W1 at *
    refine (turnCode_c A2 c2 B xs f t m A c cs _ (h.below hx1 hB) (hg.below hx1 hB) (Nat.le_trans hB hx1.size) hn hn2).mono ?_
    rintro e w1 ⟨rfl, hx2⟩
    rw [Hz.out]
    go_wp2
    exact bodyPost_ret (v := .tuple #[.slice none 0 0, .int .i64 z]) (by simp [results, Try.results52, go_sem]) rfl ⟨none, 0, by rw [HF.out, Hz.out]; rfl, by rw [HF.out]; exact Sl.none_ _ _ _ _ _, hx1.trans hx2⟩
  subst hz
  have HC := Lib.hid (show contB xs = true ∧ segB f t m cs = true by
    have := Hz.out
    unfold askC at this
    by_cases hl : 4096 < xs.length
    · rw [if_pos hl] at this; omega
    · rw [if_neg hl] at this
      cases hc : contB xs <;> cases hs : segB f t m cs <;> rw [hc, hs] at this <;> simp at this ⊢)
  have HF := Lib.hid (show fwV pO xs (segB f t m cs) cs = app pO xs cs from fwV_yes (by rw [HC.out.1, HC.out.2]; rfl))
  have H8 := Lib.hid (contB_yes HC.out.1).1
  have HK := Lib.hid (show chsB cs = true by
    have := HC.out.2
    unfold segB at this
    simp only [Bool.and_eq_true] at this
    exact this.2)
  go_enter Try.func52, Try.ntmps52
  go_wp2_with fail
  have b1 := Box.new w 54 #[.int .i64 f, .int .i64 t, .int .i64 m, .slice A cs.length c]
  have hx1 := (Nx.refl w).alloc (.cells #[.int .i64 f, .int .i64 t, .int .i64 m, .slice A cs.length c] 54)
  generalize w.alloc (.cells #[.int .i64 f, .int .i64 t, .int .i64 m, .slice A cs.length c] 54) = W1 at *
  refine (turnCode_c A2 c2 B xs f t m A c cs _ (h.below hx1 hB) (hg.below hx1 hB) (Nat.le_trans hB hx1.size) hn hn2).mono ?_
  rintro e w1 ⟨rfl, hx2⟩
  rw [Hz.out]
  have b2 := b1.nx hx2
  have hX2 := hx1.trans hx2
  clear b1 hx1 hx2
  go_wp2_with fail
  refine wp_region_plan (.t 0 (.t 2 (.c 1 (.c 3 (.c 4 (.t 5 (.t 6 .e))))))) (fun w' => w'.cell? ⟨w.heap.size, 0, none⟩ = some (.int .i64 f) ∧ w'.cell? ⟨w.heap.size, 1, none⟩ = some (.int .i64 t) ∧ w'.cell? ⟨w.heap.size, 2, none⟩ = some (.int .i64 m) ∧ w'.cell? ⟨w.heap.size, 3, none⟩ = some (.slice A cs.length c)) (by kernel_rfl) (by kernel_rfl) rfl (by kernel_rfl) (fun _ _ d _ _ h => by cases d <;> exact h) (by exact (b2.d4)) ?_
  simp only [psOf, List.getD_cons_zero, List.getD_cons_succ]
  repeat (first | (refine HP.take (v := ?_) (by rfl) ?_ ?_; rotate_left; (· (intro w hSw; (try dsimp only at hSw); go_simp; try with_reducible rfl)); (try simp only [Act.put, List.setIfInBounds_toArray, List.set_cons_zero, List.set_cons_succ])) | (refine HP.skip (by rfl) ?_; (try simp only [Act.put, List.setIfInBounds_toArray, List.set_cons_zero, List.set_cons_succ])))
  refine HP.call ?_
  refine CallStep.mk (by rfl) (fun K hK => ?_)
  go_simp
  refine (valuesOf_c A2 c2 B xs _ (h.below hX2.drew hB) (Nat.le_trans hB hX2.drew.size) H8.out).mono ?_; rintro e v1 ⟨rfl, hv1⟩; have bv1 := b2.nx (Nx.drew_r hv1); have hXv1 := hX2.drew.trans hv1
  go_wp2_with fail
  refine hK.out _ _ (by exact bv1.d4) ?_
  clear hK K
  try simp only [Act.put, List.setIfInBounds_toArray, List.set_cons_zero, List.set_cons_succ]
  refine HP.call ?_
  refine CallStep.mk (by rfl) (fun K hK => ?_)
  go_simp
  refine (valuesBackward_c f t m A c B cs xs _ (hg.below hXv1 hB) (Nat.le_trans hB hXv1.size) HK.out H8.out).mono ?_; rintro e v2 ⟨rfl, hv2⟩; have bv2 := bv1.nx hv2; have hXv2 := hXv1.trans hv2
  go_wp2_with fail
  refine hK.out _ _ (by exact bv2.d4) ?_
  clear hK K
  try simp only [Act.put, List.setIfInBounds_toArray, List.set_cons_zero, List.set_cons_succ]
  refine HP.call ?_
  refine CallStep.mk (by rfl) (fun K hK => ?_)
  go_simp
  refine (valuesList_c (app pO xs cs) _ (by rw [app_len]; exact H8.out)).mono ?_; rintro e v3 ⟨A9, c9, rfl, hS9, hv3⟩; have bv3 := bv2.nx hv3
  go_wp2_with fail
  refine hK.out _ _ (by exact bv3.d4) ?_
  clear hK K
  try simp only [Act.put, List.setIfInBounds_toArray, List.set_cons_zero, List.set_cons_succ]
  repeat (first | (refine HP.take (v := ?_) (by rfl) ?_ ?_; rotate_left; (· (intro w hSw; (try dsimp only at hSw); go_simp; try with_reducible rfl)); (try simp only [Act.put, List.setIfInBounds_toArray, List.set_cons_zero, List.set_cons_succ])) | (refine HP.skip (by rfl) ?_; (try simp only [Act.put, List.setIfInBounds_toArray, List.set_cons_zero, List.set_cons_succ])))
  refine HP.done ?_
  go_wp2
  exact bodyPost_ret (v := .tuple #[.slice A9 (app pO xs cs).length c9, .int .i64 0]) (by simp [results, Try.results52, go_sem]) rfl ⟨A9, c9, by rw [HF.out, Hz.out], by rw [HF.out]; exact hS9.low hXv2.size, hXv2.trans hv3⟩
end Go.Proofs.Ytihpadelfpogmaa
/- Contract of SegOK, as the model has it. Conditions: the segment can be read, and has at most 1048576 changes. -/
namespace Go.Proofs.Ytihpadelfpogmaa
set_option linter.unusedVariables false
set_option maxRecDepth 100000
open Go.RowKit

set_option maxRecDepth 100000 in
set_option maxHeartbeats 4000000 in
theorem specSegOK_c (f t m : Int) (A : Option Addr) (c B : Nat) (cs : List Chg) (w : World) (h : Chs w B A cs) (hB : B ≤ w.heap.size) (hn : cs.length ≤ 1048576) :
    Calls Try.prog 120 #[.agg #[.int .i64 f, .int .i64 t, .int .i64 m, .slice A cs.length c]] w fun e w' => e = .returned (.bool (segB f t m cs)) ∧ Nx w w' := by
  cases x1 : inB 0 999998 f with
  | false =>
    have H1 := Lib.hid x1
    have HR := Lib.hid (segB_no (t := t) (m := m) (cs := cs) (.inl x1)).symm
    clear x1
    go_enter Try.func120, Try.ntmps120
    go_wp2_with (go_at_call 122; refine (l01In_c _ _ _ _).mono ?_; rintro e w' ⟨rfl, rfl⟩; first | rw [H1.out])
    go_ret
    exact ⟨ret_bool HR.out, (Nx.refl _).alloc _⟩
  | true =>
  have H1 := Lib.hid x1
  obtain ⟨hf0, hf1⟩ := inB_yes x1
  clear x1
  cases x2 : inB (f + 1) 999999 t with
  | false =>
    have H2 := Lib.hid x2
    have HR := Lib.hid (segB_no (f := f) (t := t) (m := m) (cs := cs) (.inr (.inl x2))).symm
    clear x2
    go_enter Try.func120, Try.ntmps120
    go_wp2_with (go_at_call 122; refine (l01In_c _ _ _ _).mono ?_; rintro e w' ⟨rfl, rfl⟩; first | rw [H1.out] | rw [H2.out])
    go_ret
    exact ⟨ret_bool HR.out, (Nx.refl _).alloc _⟩
  | true =>
  have H2 := Lib.hid x2
  obtain ⟨ht0, ht1⟩ := inB_yes x2
  clear x2
  cases x3 : inB 0 999999 m with
  | false =>
    have H3 := Lib.hid x3
    have HR := Lib.hid (segB_no (f := f) (t := t) (m := m) (cs := cs) (.inr (.inr (.inr (.inr (.inr (.inl x3))))))).symm
    clear x3
    go_enter Try.func120, Try.ntmps120
    go_wp2_with (go_at_call 122; refine (l01In_c _ _ _ _).mono ?_; rintro e w' ⟨rfl, rfl⟩; first | rw [H1.out] | rw [H2.out] | rw [H3.out])
    go_ret
    exact ⟨ret_bool HR.out, (Nx.refl _).alloc _⟩
  | true =>
  have H3 := Lib.hid x3
  clear x3
  by_cases hl : cs.length ≤ 8
  case neg =>
    have hl' : decide (8 < (cs.length : Int)) = true := by simp; omega
    have HR := Lib.hid (segB_no (f := f) (t := t) (m := m) (cs := cs) (.inr (.inr (.inr (.inr (.inr (.inr (by cases hx : chsB cs with
      | false => rfl
      | true => exact absurd (chsB_len hx) hl)))))))).symm
    go_enter Try.func120, Try.ntmps120
    go_wp2_with (go_at_call 122; refine (l01In_c _ _ _ _).mono ?_; rintro e w' ⟨rfl, rfl⟩; first | rw [H1.out] | rw [H2.out] | rw [H3.out])
    go_ret
    exact ⟨ret_bool HR.out, (Nx.refl _).alloc _⟩
  have hl' : decide (8 < (cs.length : Int)) = false := by simp; omega
  go_enter Try.func120, Try.ntmps120
  go_wp2_with (go_at_call 122; refine (l01In_c _ _ _ _).mono ?_; rintro e w' ⟨rfl, rfl⟩; first | rw [H1.out] | rw [H2.out] | rw [H3.out])
  have b0 := Box.new w 54 #[.int .i64 f, .int .i64 t, .int .i64 m, .slice A cs.length c]
  have hx0 := (Nx.refl w).alloc (.cells #[.int .i64 f, .int .i64 t, .int .i64 m, .slice A cs.length c] 54)
  generalize w.alloc (.cells #[.int .i64 f, .int .i64 t, .int .i64 m, .slice A cs.length c] 54) = W at *
  clear hl'
  go_loopw [3] (fun i wr => ∃ k : Nat, k ≤ cs.length ∧ i = .int .i64 k ∧ OkTo cs k ∧ Nx W wr) (fun i _ => cs.length - (intOf i).toNat)
  case atStart => exact ⟨0, Nat.zero_le _, rfl, OkTo.zero _, Nx.refl _⟩
  case round =>
    obtain ⟨k, hk, rfl, hto, hnx⟩ := hrel
    obtain ⟨_, _, _, c3⟩ := (b0.nx hnx).d4
    by_cases hlt : k < cs.length
    · obtain ⟨b, off, rfl, hb, k0, k1, k2⟩ := (h.below (hx0.trans hnx) hB).at_ hlt
      obtain ⟨⟨q0, q1, q2⟩, Hq⟩ : ∃ q, Hid (cs.getD k chZ = q) := ⟨_, rfl⟩
      rw [Hq.out] at k0 k1 k2
      have hbw : b < wr.heap.size := by have := hx0.size; have := hnx.size; omega
      have hbv : w.heap.size < wr.heap.size := (b0.nx hnx).lt
      cases hch : chB (q0, q1, q2) with
      | false =>
        have HC := Lib.hid hch
        have HR := Lib.hid (segB_no (f := f) (t := t) (m := m) (cs := cs) (.inr (.inr (.inr (.inr (.inr (.inr (chsB_no hlt (by unfold okCh; rw [Hq.out, hch]; rfl))))))))).symm
        clear hch
        go_wp2_with fail
        refine wp_region_lex [false, false, false, false, false, true, false, false, false, false, false, false, false, false, false, false, false, false, false, false, false, false, false, false, false, false, false] (fun w' => w'.cell? ⟨w.heap.size, 3, none⟩ = some (.slice (some ⟨b, off, none⟩) cs.length c) ∧ w'.cell? ⟨b, off + k * 3, none⟩ = some (.int .i64 q0) ∧ w'.cell? ⟨b, off + k * 3 + 1, none⟩ = some (.int .i64 q1) ∧ w'.cell? ⟨b, off + k * 3 + 2, none⟩ = some (.int .i64 q2)) (by kernel_rfl) (by kernel_rfl) rfl (by kernel_rfl) (fun _ _ d _ _ h => by cases d <;> exact h) (by exact ⟨c3, k0, k1, k2⟩) ?_
        repeat (first | (refine HL.take (v := ?_) (by rfl) ?_ ?_; rotate_left; (· (intro w hSw; (try dsimp only at hSw); go_simp; try with_reducible rfl)); (try simp only [Act.put, List.setIfInBounds_toArray, List.set_cons_zero, List.set_cons_succ])) | (refine HL.skip (by rfl) ?_; (try simp only [Act.put, List.setIfInBounds_toArray, List.set_cons_zero, List.set_cons_succ])))
        refine HL.call (by rfl) (fun K hK => ?_)
        go_simp
        refine (l02Change_c q0 q1 q2 _).mono ?_; rintro e w1 ⟨rfl, hnx1⟩; rw [HC.out]; have d3 := (hnx1.cell (p := ⟨w.heap.size, 3, none⟩) hbv).trans c3; have l0 := (hnx1.cell (p := ⟨b, off + k * 3, none⟩) hbw).trans k0; have l1 := (hnx1.cell (p := ⟨b, off + k * 3 + 1, none⟩) hbw).trans k1; have l2 := (hnx1.cell (p := ⟨b, off + k * 3 + 2, none⟩) hbw).trans k2
        go_wp2_with fail
        refine hK.out _ _ (by exact ⟨d3, l0, l1, l2⟩) ?_
        clear hK K
        try simp only [Act.put, List.setIfInBounds_toArray, List.set_cons_zero, List.set_cons_succ]
        repeat (first | (refine HL.take (v := ?_) (by rfl) ?_ ?_; rotate_left; (· (intro w hSw; (try dsimp only at hSw); go_simp; try with_reducible rfl)); (try simp only [Act.put, List.setIfInBounds_toArray, List.set_cons_zero, List.set_cons_succ])) | (refine HL.skip (by rfl) ?_; (try simp only [Act.put, List.setIfInBounds_toArray, List.set_cons_zero, List.set_cons_succ])))
        refine HL.done ?_
        go_wp2
        go_ret
        exact ⟨ret_bool HR.out, hx0.trans (hnx.drew.trans hnx1)⟩
      | true =>
        have HC := Lib.hid hch
        clear hch
        by_cases hk0 : k = 0
        · have hd0 : decide (0 < (k : Int)) = false := by simp; omega
          have HO := Lib.hid (show okCh cs k = true by unfold okCh; rw [Hq.out, HC.out, hk0]; rfl)
          have hd1 : decide (0 < k) = false := by simp; omega
          clear hk0
          go_wp2_with fail
          refine wp_region_lex [false, false, false, false, false, true, false, false, false, false, false, false, false, false, false, false, false, false, false, false, false, false, false, false, false, false, false] (fun w' => w'.cell? ⟨w.heap.size, 3, none⟩ = some (.slice (some ⟨b, off, none⟩) cs.length c) ∧ w'.cell? ⟨b, off + k * 3, none⟩ = some (.int .i64 q0) ∧ w'.cell? ⟨b, off + k * 3 + 1, none⟩ = some (.int .i64 q1) ∧ w'.cell? ⟨b, off + k * 3 + 2, none⟩ = some (.int .i64 q2)) (by kernel_rfl) (by kernel_rfl) rfl (by kernel_rfl) (fun _ _ d _ _ h => by cases d <;> exact h) (by exact ⟨c3, k0, k1, k2⟩) ?_
          repeat (first | (refine HL.take (v := ?_) (by rfl) ?_ ?_; rotate_left; (· (intro w hSw; (try dsimp only at hSw); go_simp; try with_reducible rfl)); (try simp only [Act.put, List.setIfInBounds_toArray, List.set_cons_zero, List.set_cons_succ])) | (refine HL.skip (by rfl) ?_; (try simp only [Act.put, List.setIfInBounds_toArray, List.set_cons_zero, List.set_cons_succ])))
          refine HL.call (by rfl) (fun K hK => ?_)
          go_simp
          refine (l02Change_c q0 q1 q2 _).mono ?_; rintro e w1 ⟨rfl, hnx1⟩; rw [HC.out]; have d3 := (hnx1.cell (p := ⟨w.heap.size, 3, none⟩) hbv).trans c3; have l0 := (hnx1.cell (p := ⟨b, off + k * 3, none⟩) hbw).trans k0; have l1 := (hnx1.cell (p := ⟨b, off + k * 3 + 1, none⟩) hbw).trans k1; have l2 := (hnx1.cell (p := ⟨b, off + k * 3 + 2, none⟩) hbw).trans k2
          go_wp2_with fail
          refine hK.out _ _ (by exact ⟨d3, l0, l1, l2⟩) ?_
          clear hK K
          try simp only [Act.put, List.setIfInBounds_toArray, List.set_cons_zero, List.set_cons_succ]
          repeat (first | (refine HL.take (v := ?_) (by rfl) ?_ ?_; rotate_left; (· (intro w hSw; (try dsimp only at hSw); go_simp; try with_reducible rfl)); (try simp only [Act.put, List.setIfInBounds_toArray, List.set_cons_zero, List.set_cons_succ])) | (refine HL.skip (by rfl) ?_; (try simp only [Act.put, List.setIfInBounds_toArray, List.set_cons_zero, List.set_cons_succ])))
          refine HL.done ?_
          go_wp2
          go_roundw
          case rel => exact ⟨k + 1, by omega, by go_num, hto.succ HO.out, hnx.drew.trans hnx1⟩
          case measure => simp [intOf]; omega
        · obtain ⟨j, rfl⟩ : ∃ j, k = j + 1 := ⟨k - 1, by omega⟩
          obtain ⟨b', off', he, _, m0, _, _⟩ := (h.below (hx0.trans hnx) hB).at_ (k := j) (by omega)
          obtain ⟨rfl, rfl⟩ : b = b' ∧ off = off' := by simpa using he
          clear he
          obtain ⟨⟨r0, r1, r2⟩, Hr⟩ : ∃ q, Hid (cs.getD j chZ = q) := ⟨_, rfl⟩
          rw [Hr.out] at m0
          have hd0 : decide (0 < ((j : Int) + 1)) = true := by simp
          have hd1 : decide (0 < j + 1) = true := by simp
          have hi1 : (0 : Int) ≤ (j : Int) + 1 := by omega
          have hi2 : (j : Int) + 1 < (cs.length : Int) := by omega
          have hi4 : (j : Int) < (cs.length : Int) := by omega
          have hi5 : j < cs.length := by omega
          have hi3 : ((j : Int) + 1).toNat = j + 1 := by omega
          have hw1 : IntKind.i64.wrap ((j : Int) + 1 - 1) = (j : Int) := by rw [Int.add_sub_cancel]; exact IntWalk.i64_in _ (by omega)
          have hw2 : IntKind.i64.wrap (j : Int) = (j : Int) := IntWalk.i64_in _ (by omega)
          have hi6 : (0 : Int) ≤ (j : Int) := by omega
          by_cases hlt2 : r0 < q0
          · have hd : decide (q0 ≤ r0) = false := by simp; omega
            have HO := Lib.hid (show okCh cs (j + 1) = true by unfold okCh; rw [Hq.out, HC.out, Nat.add_sub_cancel, Hr.out]; simp [hlt2])
            go_wp2_with fail
            refine wp_region_lex [false, false, false, false, false, true, false, false, false, false, false, false, false, false, false, false, false, false, false, false, false, false, false, false, false, false, false] (fun w' => w'.cell? ⟨w.heap.size, 3, none⟩ = some (.slice (some ⟨b, off, none⟩) cs.length c) ∧ w'.cell? ⟨b, off + (j + 1) * 3, none⟩ = some (.int .i64 q0) ∧ w'.cell? ⟨b, off + (j + 1) * 3 + 1, none⟩ = some (.int .i64 q1) ∧ w'.cell? ⟨b, off + (j + 1) * 3 + 2, none⟩ = some (.int .i64 q2) ∧ w'.cell? ⟨b, off + j * 3, none⟩ = some (.int .i64 r0)) (by kernel_rfl) (by kernel_rfl) rfl (by kernel_rfl) (fun _ _ d _ _ h => by cases d <;> exact h) (by exact ⟨c3, k0, k1, k2, m0⟩) ?_
            repeat (first | (refine HL.take (v := ?_) (by rfl) ?_ ?_; rotate_left; (· (intro w hSw; (try dsimp only at hSw); go_simp; try with_reducible rfl)); (try simp only [Act.put, List.setIfInBounds_toArray, List.set_cons_zero, List.set_cons_succ])) | (refine HL.skip (by rfl) ?_; (try simp only [Act.put, List.setIfInBounds_toArray, List.set_cons_zero, List.set_cons_succ])))
            refine HL.call (by rfl) (fun K hK => ?_)
            go_simp
            refine (l02Change_c q0 q1 q2 _).mono ?_; rintro e w1 ⟨rfl, hnx1⟩; rw [HC.out]; have d3 := (hnx1.cell (p := ⟨w.heap.size, 3, none⟩) hbv).trans c3; have l0 := (hnx1.cell (p := ⟨b, off + (j + 1) * 3, none⟩) hbw).trans k0; have l1 := (hnx1.cell (p := ⟨b, off + (j + 1) * 3 + 1, none⟩) hbw).trans k1; have l2 := (hnx1.cell (p := ⟨b, off + (j + 1) * 3 + 2, none⟩) hbw).trans k2; have n0 := (hnx1.cell (p := ⟨b, off + j * 3, none⟩) hbw).trans m0
            go_wp2_with fail
            refine hK.out _ _ (by exact ⟨d3, l0, l1, l2, n0⟩) ?_
            clear hK K
            try simp only [Act.put, List.setIfInBounds_toArray, List.set_cons_zero, List.set_cons_succ]
            repeat (first | (refine HL.take (v := ?_) (by rfl) ?_ ?_; rotate_left; (· (intro w hSw; (try dsimp only at hSw); go_simp; try with_reducible rfl)); (try simp only [Act.put, List.setIfInBounds_toArray, List.set_cons_zero, List.set_cons_succ])) | (refine HL.skip (by rfl) ?_; (try simp only [Act.put, List.setIfInBounds_toArray, List.set_cons_zero, List.set_cons_succ])))
            refine HL.done ?_
            clear hw1 hw2 hi6 hi1 hi2 hi3 hi4 hi5
            go_wp2
            go_roundw
            case rel => exact ⟨j + 1 + 1, by omega, by go_num, hto.succ HO.out, hnx.drew.trans hnx1⟩
            case measure => simp [intOf]; omega
          · have hd : decide (q0 ≤ r0) = true := by simp; omega
            have HR := Lib.hid (segB_no (f := f) (t := t) (m := m) (cs := cs) (.inr (.inr (.inr (.inr (.inr (.inr (chsB_no hlt (by unfold okCh; rw [Hq.out, Nat.add_sub_cancel, Hr.out]; simp [hlt2]))))))))).symm
            go_wp2_with fail
            refine wp_region_lex [false, false, false, false, false, true, false, false, false, false, false, false, false, false, false, false, false, false, false, false, false, false, false, false, false, false, false] (fun w' => w'.cell? ⟨w.heap.size, 3, none⟩ = some (.slice (some ⟨b, off, none⟩) cs.length c) ∧ w'.cell? ⟨b, off + (j + 1) * 3, none⟩ = some (.int .i64 q0) ∧ w'.cell? ⟨b, off + (j + 1) * 3 + 1, none⟩ = some (.int .i64 q1) ∧ w'.cell? ⟨b, off + (j + 1) * 3 + 2, none⟩ = some (.int .i64 q2) ∧ w'.cell? ⟨b, off + j * 3, none⟩ = some (.int .i64 r0)) (by kernel_rfl) (by kernel_rfl) rfl (by kernel_rfl) (fun _ _ d _ _ h => by cases d <;> exact h) (by exact ⟨c3, k0, k1, k2, m0⟩) ?_
            repeat (first | (refine HL.take (v := ?_) (by rfl) ?_ ?_; rotate_left; (· (intro w hSw; (try dsimp only at hSw); go_simp; try with_reducible rfl)); (try simp only [Act.put, List.setIfInBounds_toArray, List.set_cons_zero, List.set_cons_succ])) | (refine HL.skip (by rfl) ?_; (try simp only [Act.put, List.setIfInBounds_toArray, List.set_cons_zero, List.set_cons_succ])))
            refine HL.call (by rfl) (fun K hK => ?_)
            go_simp
            refine (l02Change_c q0 q1 q2 _).mono ?_; rintro e w1 ⟨rfl, hnx1⟩; rw [HC.out]; have d3 := (hnx1.cell (p := ⟨w.heap.size, 3, none⟩) hbv).trans c3; have l0 := (hnx1.cell (p := ⟨b, off + (j + 1) * 3, none⟩) hbw).trans k0; have l1 := (hnx1.cell (p := ⟨b, off + (j + 1) * 3 + 1, none⟩) hbw).trans k1; have l2 := (hnx1.cell (p := ⟨b, off + (j + 1) * 3 + 2, none⟩) hbw).trans k2; have n0 := (hnx1.cell (p := ⟨b, off + j * 3, none⟩) hbw).trans m0
            go_wp2_with fail
            refine hK.out _ _ (by exact ⟨d3, l0, l1, l2, n0⟩) ?_
            clear hK K
            try simp only [Act.put, List.setIfInBounds_toArray, List.set_cons_zero, List.set_cons_succ]
            repeat (first | (refine HL.take (v := ?_) (by rfl) ?_ ?_; rotate_left; (· (intro w hSw; (try dsimp only at hSw); go_simp; try with_reducible rfl)); (try simp only [Act.put, List.setIfInBounds_toArray, List.set_cons_zero, List.set_cons_succ])) | (refine HL.skip (by rfl) ?_; (try simp only [Act.put, List.setIfInBounds_toArray, List.set_cons_zero, List.set_cons_succ])))
            refine HL.done ?_
            clear hw1 hw2 hi6 hi1 hi2 hi3 hi4 hi5
            go_wp2
            go_ret
            exact ⟨ret_bool HR.out, hx0.trans (hnx.drew.trans hnx1)⟩
    · obtain rfl : k = cs.length := by omega
      have HR := Lib.hid (segB_mk hf0 (by omega) ht1 H3.out hto.all).symm
      go_wp2
      go_ret
      exact ⟨ret_bool HR.out, hx0.trans hnx⟩
end Go.Proofs.Ytihpadelfpogmaa
/- Contracts of the model's l03Ask, l03Forward, l03Backward, Forward and Backward. Conditions: the list and the segment can be read, and hold at most 1048576 elements each. -/
namespace Go.Proofs.Ytihpadelfpogmaa
set_option linter.unusedVariables false
set_option maxRecDepth 100000
open Go.RowKit

set_option maxRecDepth 100000 in
set_option maxHeartbeats 2000000 in
theorem l03Ask_c (A2 : Option Addr) (c2 B : Nat) (xs : List Int) (f t m : Int) (A : Option Addr) (c : Nat) (cs : List Chg) (w : World) (h : Ins w B A2 xs) (hg : Chs w B A cs) (hB : B ≤ w.heap.size) (hn : xs.length ≤ 1048576) (hn2 : cs.length ≤ 1048576) :
    Calls Try.prog 111 #[.slice A2 xs.length c2, .agg #[.int .i64 f, .int .i64 t, .int .i64 m, .slice A cs.length c]] w fun e w' => e = .returned (.int .i64 (askC xs (segB f t m cs))) ∧ Nx w w' := by
  by_cases hl : 4096 < xs.length
  · have hd : decide (4096 < (xs.length : Int)) = true := by simp; omega
    have HR := Lib.hid (askC_long hl (segB f t m cs)).1.symm
    go_enter Try.func111, Try.ntmps111
    go_wp2
    go_ret
    exact ⟨ret_int HR.out, (Nx.refl _).alloc _⟩
  have hd : decide (4096 < (xs.length : Int)) = false := by simp; omega
  cases hc : contB xs <;> cases hs : segB f t m cs <;> (
    have HC := Lib.hid hc
    have HS := Lib.hid hs
    have HR := Lib.hid (askC_short hl hc (rfl : segB f t m cs = segB f t m cs)).symm
    rw [hs] at HR
    clear hc hs
    go_enter Try.func111, Try.ntmps111
    go_wp2_with fail
    have b1 := Box.new w 54 #[.int .i64 f, .int .i64 t, .int .i64 m, .slice A cs.length c]
    have hx1 := (Nx.refl w).alloc (.cells #[.int .i64 f, .int .i64 t, .int .i64 m, .slice A cs.length c] 54)
    generalize w.alloc (.cells #[.int .i64 f, .int .i64 t, .int .i64 m, .slice A cs.length c] 54) = W1 at *
    refine (specContentOK_c A2 c2 B xs _ (h.below hx1 hB) (Nat.le_trans hB hx1.size) hn).mono ?_
    rintro e w1 ⟨rfl, hx2⟩
    rw [HC.out]
    obtain ⟨k0, k1, k2, k3⟩ := (b1.nx hx2).d4
    have hx3 := hx1.trans hx2
    first
      | (go_wp2_with (go_at_call 120; refine (specSegOK_c f t m A c B cs _ (hg.below hx3 hB) (Nat.le_trans hB hx3.size) hn2).mono ?_; rintro e w2 ⟨rfl, hx4⟩; rw [HS.out])
         go_ret
         exact ⟨ret_int HR.out, hx3.trans hx4⟩)
      | (go_wp2
         go_ret
         exact ⟨ret_int HR.out, hx3⟩))
theorem cell_far (w : World) (p q : Addr) (v : Value) (h : q.block ≠ p.block) : (w.setCell p v).cell? q = w.cell? q := by
  unfold World.cell?
  rw [Below.heap_setCell w p v q.block h]
theorem nr_own {w u : World} {A : Option Addr} {xs : List Int} (h : NewRow w u 3 1 A xs.length (inAt xs)) (hp : 0 < xs.length) : ∃ g, A = some ⟨g, 0, none⟩ ∧ w.heap.size ≤ g ∧ Own u g 3 xs.length (inAt xs) := by
  obtain ⟨g, e, hg, ho⟩ := h.2 hp
  rw [Nat.mul_one] at ho
  exact ⟨g, e, hg, ho⟩

set_option maxRecDepth 100000 in
set_option maxHeartbeats 4000000 in
theorem l03Forward_c (A2 : Option Addr) (c2 B : Nat) (xs : List Int) (f t m : Int) (A : Option Addr) (c : Nat) (cs : List Chg) (w : World) (h : Ins w B A2 xs) (hg : Chs w B A cs) (hB : B ≤ w.heap.size) (hok : chsB cs = true) (h8 : xs.length = 8) :
    Calls Try.prog 76 #[.slice A2 xs.length c2, .agg #[.int .i64 f, .int .i64 t, .int .i64 m, .slice A cs.length c]] w (RetI w (app pN xs cs)) := by
  obtain ⟨i0, hi0, hz0, hz1, hz2⟩ := info_parts info_int
  have hl8 := chsB_len hok
  have hto := chsB_to hok
  have H8 := Lib.hid h8
  clear hok h8
  have b1 := (Box.new w 54 #[.int .i64 f, .int .i64 t, .int .i64 m, .slice A cs.length c]).alloc (.cells #[] 3)
  have hx1 := ((Nx.refl w).alloc (.cells #[.int .i64 f, .int .i64 t, .int .i64 m, .slice A cs.length c] 54)).alloc (.cells #[] 3)
  have Hsz := Lib.hid (show ((w.alloc (.cells #[.int .i64 f, .int .i64 t, .int .i64 m, .slice A cs.length c] 54)).alloc (.cells #[] 3)).heap.size = w.heap.size + 1 + 1 by simp only [World.size_alloc])
  go_enter Try.func76, Try.ntmps76
  go_wp2_with (at_builtin; refine wpList_append_new rfl (.tmp 6) (.tmp 7) 22 rfl 3 i0 _ 1 8 Try.underlying22 hi0 hz0 hz1 hz2 (by decide) (by decide) (w.heap.size + 1) A2 xs.length c2 B (inAt xs) rfl rfl (by rw [Nat.mul_one]; exact h.below hx1 hB) (by have := H8.out; omega) ?_)
  intro A9 c9 w1 hnew
  obtain ⟨g, rfl, hgl, hown⟩ := nr_own hnew (by have := H8.out; omega)
  have hx2 := hnew.1
  have b2 := b1.nx hx2
  have hX2 := hx1.trans hx2
  have hgw : w.heap.size < g := by have := Hsz.out; omega
  clear hnew b1 hx1 hx2 hgl
  go_wp2_with fail
  go_loopw [5] (fun i wr => ∃ k : Nat, k ≤ cs.length ∧ i = .int .i64 k ∧ Own wr g 3 xs.length (inAt (app pN xs (cs.take k))) ∧ Box wr w.heap.size 54 #[.int .i64 f, .int .i64 t, .int .i64 m, .slice A cs.length c] ∧ Nx w wr) (fun i _ => cs.length - (intOf i).toNat)
  case atStart => exact ⟨0, Nat.zero_le _, rfl, hown, b2, hX2⟩
  case round =>
    obtain ⟨k, hk, rfl, hown, bg, hnx⟩ := hrel
    clear b2 hX2
    obtain ⟨_, _, _, d3⟩ := bg.d4
    by_cases hlt : k < cs.length
    · obtain ⟨b, off, rfl, hb, k0, k1, k2⟩ := (hg.below hnx hB).at_ hlt
      obtain ⟨hr0, hr1⟩ := hto.rise k hlt
      obtain ⟨⟨q0, q1, q2⟩, Hq⟩ : ∃ q, Hid (cs.getD k chZ = q) := ⟨_, rfl⟩
      rw [Hq.out] at k0 k1 k2 hr0 hr1
      obtain ⟨n0, rfl⟩ : ∃ n : Nat, q0 = n := ⟨q0.toNat, by simp only at hr0; omega⟩
      have hn0 : n0 < xs.length := by have := H8.out; simp only at hr1; omega
      have hn1 : (n0 : Int) < (xs.length : Int) := by omega
      have hk1 : (k : Int) < (cs.length : Int) := by omega
      have hbg : b ≠ g := by omega
      clear hr0 hr1
      obtain ⟨v, hv⟩ : ∃ v, wr.cell? ⟨g, n0, none⟩ = some v := ⟨_, hown.cell hn0⟩
      have hz := hown.frozen n0
      go_wp2_with fail
      refine wp_region_lex [false, false, false, false, false, false, false, false, false, false, false, false, false, false, true] (fun w' => w'.cell? ⟨w.heap.size, 3, none⟩ = some (.slice (some ⟨b, off, none⟩) cs.length c) ∧ w'.cell? ⟨b, off + k * 3, none⟩ = some (.int .i64 (n0 : Int)) ∧ w'.cell? ⟨b, off + k * 3 + 1, none⟩ = some (.int .i64 q1)) (by kernel_rfl) (by kernel_rfl) rfl (by kernel_rfl) (fun _ _ d _ _ h => by cases d <;> exact h) (by exact ⟨d3, k0, k1⟩) ?_
      repeat (first | (refine HL.take (v := ?_) (by rfl) ?_ ?_; rotate_left; (· (intro w hSw; (try dsimp only at hSw); go_simp; try with_reducible rfl)); (try simp only [Act.put, List.setIfInBounds_toArray, List.set_cons_zero, List.set_cons_succ])) | (refine HL.skip (by rfl) ?_; (try simp only [Act.put, List.setIfInBounds_toArray, List.set_cons_zero, List.set_cons_succ])))
      refine HL.call (by rfl) (fun K hK => ?_)
      go_simp
      refine hK.out _ _ (by exact ⟨(bg.far (p := ⟨g, n0, none⟩) (by simp; omega) (.int .i64 q1)).cell 3, ((cell_far wr ⟨g, n0, none⟩ _ _ (by simp; omega)).trans k0), ((cell_far wr ⟨g, n0, none⟩ _ _ (by simp; omega)).trans k1)⟩) ?_
      clear hK K
      try simp only [Act.put, List.setIfInBounds_toArray, List.set_cons_zero, List.set_cons_succ]
      refine HL.done ?_
      go_wp2
      go_roundw
      case rel =>
        refine ⟨k + 1, by omega, by go_num, (hown.set (k := n0) hn0 (.int .i64 q1)).congr fun i hi => ?_, bg.far (p := ⟨g, n0, none⟩) (by simp; omega) _, (hnx.setCell (p := ⟨g, n0, none⟩) (by simp; omega) _).drew⟩
        rw [app_succ pN xs cs hlt, Hq.out]
        rw [inAt_set _ (by rw [app_len]; simpa using hn0)]
        simp [pN]
      case measure => simp [intOf]; omega
    · obtain rfl : k = cs.length := by omega
      rw [List.take_length] at hown
      go_wp2
      go_ret
      exact ⟨_, c9, by rw [app_len]; rfl, by unfold SlI; rw [app_len]; exact Sl.own hown (by omega), hnx⟩

set_option maxRecDepth 100000 in
set_option maxHeartbeats 4000000 in
theorem specForward_c (A2 : Option Addr) (c2 B : Nat) (xs : List Int) (f t m : Int) (A : Option Addr) (c : Nat) (cs : List Chg) (w : World) (h : Ins w B A2 xs) (hg : Chs w B A cs) (hB : B ≤ w.heap.size) (hn : xs.length ≤ 1048576) (hn2 : cs.length ≤ 1048576) :
    Calls Try.prog 51 #[.slice A2 xs.length c2, .agg #[.int .i64 f, .int .i64 t, .int .i64 m, .slice A cs.length c]] w (RetIC w (fwV pN xs (segB f t m cs) cs) (askC xs (segB f t m cs))) := by
  by_cases hl : 4096 < xs.length
  · have hd : decide (4096 < (xs.length : Int)) = true := by simp; omega
    have HR := Lib.hid (askC_long hl (segB f t m cs)).1
    have HF := Lib.hid (show fwV pN xs (segB f t m cs) cs = [] from fwV_no (by rw [(askC_long hl true).2]; rfl))
    go_enter Try.func51, Try.ntmps51
    go_wp2
    exact bodyPost_ret (v := .tuple #[.slice (some ⟨w.heap.size + 1, 0, none⟩) 0 0, .int .i64 2]) (by simp [results, Try.results51, go_sem]) rfl ⟨_, 0, by rw [HF.out, HR.out]; rfl, by rw [HF.out]; exact Sl.none_ _ _ _ _ _, ((Nx.refl w).alloc _).alloc _⟩
  have hd : decide (4096 < (xs.length : Int)) = false := by simp; omega
  obtain ⟨z, Hz⟩ : ∃ z, Hid (askC xs (segB f t m cs) = z) := ⟨_, rfl⟩
  have b1 := Box.new w 54 #[.int .i64 f, .int .i64 t, .int .i64 m, .slice A cs.length c]
  have hx1 := (Nx.refl w).alloc (.cells #[.int .i64 f, .int .i64 t, .int .i64 m, .slice A cs.length c] 54)
  by_cases hz : z = 0
  case neg =>
    have hd2 : (z != 0) = true := by simp [hz]
    have HF := Lib.hid (show fwV pN xs (segB f t m cs) cs = [] from fwV_no (by
      have := Hz.out
      unfold askC at this
      rw [if_neg hl] at this
      cases hc : (contB xs && segB f t m cs)
      · rfl
      · rw [hc] at this; exact absurd this.symm hz))
    go_enter Try.func51, Try.ntmps51
    go_wp2_with fail
    generalize w.alloc (.cells #[.int .i64 f, .int .i64 t, .int .i64 m, .slice A cs.length c] 54) = W1 at *
    refine (l03Ask_c A2 c2 B xs f t m A c cs _ (h.below hx1 hB) (hg.below hx1 hB) (Nat.le_trans hB hx1.size) hn hn2).mono ?_
    rintro e w1 ⟨rfl, hx2⟩
    rw [Hz.out]
    go_wp2
    exact bodyPost_ret (v := .tuple #[.slice (some ⟨w1.heap.size, 0, none⟩) 0 0, .int .i64 z]) (by simp [results, Try.results51, go_sem]) rfl ⟨_, 0, by rw [HF.out, Hz.out]; rfl, by rw [HF.out]; exact Sl.none_ _ _ _ _ _, (hx1.trans hx2).alloc _⟩
  subst hz
  have HC := Lib.hid (show contB xs = true ∧ segB f t m cs = true by
    have := Hz.out
    unfold askC at this
    rw [if_neg hl] at this
    cases hc : contB xs <;> cases hs : segB f t m cs <;> rw [hc, hs] at this <;> simp at this ⊢)
  have HF := Lib.hid (show fwV pN xs (segB f t m cs) cs = app pN xs cs from fwV_yes (by rw [HC.out.1, HC.out.2]; rfl))
  have H8 := Lib.hid (contB_yes HC.out.1).1
  have HK := Lib.hid (show chsB cs = true by
    have := HC.out.2
    unfold segB at this
    simp only [Bool.and_eq_true] at this
    exact this.2)
  go_enter Try.func51, Try.ntmps51
  go_wp2_with fail
  generalize w.alloc (.cells #[.int .i64 f, .int .i64 t, .int .i64 m, .slice A cs.length c] 54) = W1 at *
  refine (l03Ask_c A2 c2 B xs f t m A c cs _ (h.below hx1 hB) (hg.below hx1 hB) (Nat.le_trans hB hx1.size) hn hn2).mono ?_
  rintro e w1 ⟨rfl, hx2⟩
  rw [Hz.out]
  obtain ⟨k0, k1, k2, k3⟩ := (b1.nx hx2).d4
  have hX2 := hx1.trans hx2
  go_wp2_with fail
  refine (l03Forward_c A2 c2 B xs f t m A c cs _ (h.below hX2 hB) (hg.below hX2 hB) (Nat.le_trans hB hX2.size) HK.out H8.out).mono ?_
  rintro e w2 ⟨A9, c9, rfl, hS9, hx3⟩
  go_wp2
  exact bodyPost_ret (v := .tuple #[.slice A9 (app pN xs cs).length c9, .int .i64 0]) (by simp [results, Try.results51, go_sem]) rfl ⟨A9, c9, by rw [HF.out, Hz.out], by rw [HF.out]; exact hS9.low hX2.size, hX2.trans hx3⟩

set_option maxRecDepth 100000 in
set_option maxHeartbeats 4000000 in
theorem l03Backward_c (A2 : Option Addr) (c2 B : Nat) (xs : List Int) (f t m : Int) (A : Option Addr) (c : Nat) (cs : List Chg) (w : World) (h : Ins w B A2 xs) (hg : Chs w B A cs) (hB : B ≤ w.heap.size) (hok : chsB cs = true) (h8 : xs.length = 8) :
    Calls Try.prog 77 #[.slice A2 xs.length c2, .agg #[.int .i64 f, .int .i64 t, .int .i64 m, .slice A cs.length c]] w (RetI w (app pO xs cs)) := by
  obtain ⟨i0, hi0, hz0, hz1, hz2⟩ := info_parts info_int
  have hl8 := chsB_len hok
  have hto := chsB_to hok
  have H8 := Lib.hid h8
  clear hok h8
  have b1 := (Box.new w 54 #[.int .i64 f, .int .i64 t, .int .i64 m, .slice A cs.length c]).alloc (.cells #[] 3)
  have hx1 := ((Nx.refl w).alloc (.cells #[.int .i64 f, .int .i64 t, .int .i64 m, .slice A cs.length c] 54)).alloc (.cells #[] 3)
  have Hsz := Lib.hid (show ((w.alloc (.cells #[.int .i64 f, .int .i64 t, .int .i64 m, .slice A cs.length c] 54)).alloc (.cells #[] 3)).heap.size = w.heap.size + 1 + 1 by simp only [World.size_alloc])
  go_enter Try.func77, Try.ntmps77
  go_wp2_with (at_builtin; refine wpList_append_new rfl (.tmp 6) (.tmp 7) 22 rfl 3 i0 _ 1 8 Try.underlying22 hi0 hz0 hz1 hz2 (by decide) (by decide) (w.heap.size + 1) A2 xs.length c2 B (inAt xs) rfl rfl (by rw [Nat.mul_one]; exact h.below hx1 hB) (by have := H8.out; omega) ?_)
  intro A9 c9 w1 hnew
  obtain ⟨g, rfl, hgl, hown⟩ := nr_own hnew (by have := H8.out; omega)
  have hx2 := hnew.1
  have b2 := b1.nx hx2
  have hX2 := hx1.trans hx2
  have hgw : w.heap.size < g := by have := Hsz.out; omega
  clear hnew b1 hx1 hx2 hgl
  go_wp2_with fail
  go_loopw [5] (fun i wr => ∃ k : Nat, k ≤ cs.length ∧ i = .int .i64 k ∧ Own wr g 3 xs.length (inAt (app pO xs (cs.take k))) ∧ Box wr w.heap.size 54 #[.int .i64 f, .int .i64 t, .int .i64 m, .slice A cs.length c] ∧ Nx w wr) (fun i _ => cs.length - (intOf i).toNat)
  case atStart => exact ⟨0, Nat.zero_le _, rfl, hown, b2, hX2⟩
  case round =>
    obtain ⟨k, hk, rfl, hown, bg, hnx⟩ := hrel
    clear b2 hX2
    obtain ⟨_, _, _, d3⟩ := bg.d4
    by_cases hlt : k < cs.length
    · obtain ⟨b, off, rfl, hb, k0, k1, k2⟩ := (hg.below hnx hB).at_ hlt
      obtain ⟨hr0, hr1⟩ := hto.rise k hlt
      obtain ⟨⟨q0, q1, q2⟩, Hq⟩ : ∃ q, Hid (cs.getD k chZ = q) := ⟨_, rfl⟩
      rw [Hq.out] at k0 k1 k2 hr0 hr1
      obtain ⟨n0, rfl⟩ : ∃ n : Nat, q0 = n := ⟨q0.toNat, by simp only at hr0; omega⟩
      have hn0 : n0 < xs.length := by have := H8.out; simp only at hr1; omega
      have hn1 : (n0 : Int) < (xs.length : Int) := by omega
      have hk1 : (k : Int) < (cs.length : Int) := by omega
      have hbg : b ≠ g := by omega
      clear hr0 hr1
      obtain ⟨v, hv⟩ : ∃ v, wr.cell? ⟨g, n0, none⟩ = some v := ⟨_, hown.cell hn0⟩
      have hz := hown.frozen n0
      go_wp2_with fail
      refine wp_region_lex [false, false, false, false, false, false, false, false, false, false, false, false, false, false, true] (fun w' => w'.cell? ⟨w.heap.size, 3, none⟩ = some (.slice (some ⟨b, off, none⟩) cs.length c) ∧ w'.cell? ⟨b, off + k * 3, none⟩ = some (.int .i64 (n0 : Int)) ∧ w'.cell? ⟨b, off + k * 3 + 2, none⟩ = some (.int .i64 q2)) (by kernel_rfl) (by kernel_rfl) rfl (by kernel_rfl) (fun _ _ d _ _ h => by cases d <;> exact h) (by exact ⟨d3, k0, k2⟩) ?_
      repeat (first | (refine HL.take (v := ?_) (by rfl) ?_ ?_; rotate_left; (· (intro w hSw; (try dsimp only at hSw); go_simp; try with_reducible rfl)); (try simp only [Act.put, List.setIfInBounds_toArray, List.set_cons_zero, List.set_cons_succ])) | (refine HL.skip (by rfl) ?_; (try simp only [Act.put, List.setIfInBounds_toArray, List.set_cons_zero, List.set_cons_succ])))
      refine HL.call (by rfl) (fun K hK => ?_)
      go_simp
      refine hK.out _ _ (by exact ⟨(bg.far (p := ⟨g, n0, none⟩) (by simp; omega) (.int .i64 q2)).cell 3, ((cell_far wr ⟨g, n0, none⟩ _ _ (by simp; omega)).trans k0), ((cell_far wr ⟨g, n0, none⟩ _ _ (by simp; omega)).trans k2)⟩) ?_
      clear hK K
      try simp only [Act.put, List.setIfInBounds_toArray, List.set_cons_zero, List.set_cons_succ]
      refine HL.done ?_
      go_wp2
      go_roundw
      case rel =>
        refine ⟨k + 1, by omega, by go_num, (hown.set (k := n0) hn0 (.int .i64 q2)).congr fun i hi => ?_, bg.far (p := ⟨g, n0, none⟩) (by simp; omega) _, (hnx.setCell (p := ⟨g, n0, none⟩) (by simp; omega) _).drew⟩
        rw [app_succ pO xs cs hlt, Hq.out]
        rw [inAt_set _ (by rw [app_len]; simpa using hn0)]
        simp [pO]
      case measure => simp [intOf]; omega
    · obtain rfl : k = cs.length := by omega
      rw [List.take_length] at hown
      go_wp2
      go_ret
      exact ⟨_, c9, by rw [app_len]; rfl, by unfold SlI; rw [app_len]; exact Sl.own hown (by omega), hnx⟩

end Go.Proofs.Ytihpadelfpogmaa
/- Contracts of SegOf, as the program and as the model have it. Conditions: the list can be read, and holds at most 1048576 elements. -/
namespace Go.Proofs.Ytihpadelfpogmaa
set_option linter.unusedVariables false
set_option maxRecDepth 100000
open Go.RowKit

/-- A segment: from, to, time, changes. -/
abbrev Sg4 := Int × Int × Int × List Chg
def zSg : Sg4 := (0, 0, 0, [])
/-- A segment and a code that are answered. -/
def RetSC (w : World) (q : Sg4) (cd : Int) (e : Ending) (w' : World) : Prop :=
  ∃ (A : Option Addr) (c : Nat), e = .returned (.tuple #[.agg #[.int .i64 q.1, .int .i64 q.2.1, .int .i64 q.2.2.1, .slice A q.2.2.2.length c], .int .i64 cd]) ∧ Sl w' w.heap.size A 84 (q.2.2.2.length * 3) (chAt q.2.2.2) ∧ Nx w w'
/-- What a write makes of a content. -/
def ofW (xs : List Int) (p b v t : Int) : Sg4 := (p - 1, p, t, [(b, v, xs.getD b.toNat 0)])
def sgOf (xs : List Int) (p b v t : Int) : Sg4 := if contB xs && frameB p b v t then ofW xs p b v t else zSg
theorem chAt_one (b v o : Int) : ∀ i, i < 3 → (#[Value.int .i64 b, .int .i64 v, .int .i64 o] : Array Value)[i]! = chAt [(b, v, o)] i := fun i hi => by
  match i, hi with
  | 0, _ => rfl
  | 1, _ => rfl
  | 2, _ => rfl
theorem one_own {w : World} {g : Nat} {t : TypeId} {b v o : Int} (h : Box w g t #[.int .i64 b, .int .i64 v, .int .i64 o]) : Own w g t 3 (chAt [(b, v, o)]) := h.own.congr (chAt_one b v o)
theorem frameB_block {p b v t : Int} (h : frameB p b v t = true) : 0 ≤ b ∧ b ≤ 7 ∧ 1 ≤ p ∧ p ≤ 999999 ∧ 0 ≤ v ∧ v ≤ 999999 ∧ 0 ≤ t ∧ t ≤ 999999 := by
  unfold frameB at h
  simp only [Bool.and_eq_true] at h
  have h1 := inB_yes h.1.1.1
  have h2 := inB_yes h.1.1.2
  have h3 := inB_yes h.1.2
  have h4 := inB_yes h.2
  omega
end Go.Proofs.Ytihpadelfpogmaa
/- Contract of MergeSegs, as the program has it. Conditions: the segments can be read, and have at most 1048576 changes. -/
namespace Go.Proofs.Ytihpadelfpogmaa
set_option linter.unusedVariables false
set_option maxRecDepth 100000
open Go.RowKit

def mgB (f t m : Int) (l1 : List Chg) (f2 t2 m2 : Int) (l2 : List Chg) : Bool := segB f t m l1 && segB f2 t2 m2 l2
def mgCd (f t m : Int) (l1 : List Chg) (f2 t2 m2 : Int) (l2 : List Chg) : Int := if mgB f t m l1 f2 t2 m2 l2 then (if t = f2 then 0 else 17) else 1
def mgSg (f t m : Int) (l1 : List Chg) (f2 t2 m2 : Int) (l2 : List Chg) : Sg4 := if mgB f t m l1 f2 t2 m2 l2 && decide (t = f2) then (f, t2, m2, mrgC l1 l2) else zSg
theorem mg_bad {f t m : Int} {l1 : List Chg} {f2 t2 m2 : Int} {l2 : List Chg} (h : mgB f t m l1 f2 t2 m2 l2 = false) : mgCd f t m l1 f2 t2 m2 l2 = 1 ∧ mgSg f t m l1 f2 t2 m2 l2 = zSg := by
  unfold mgCd mgSg; rw [h]; exact ⟨rfl, rfl⟩
theorem mg_gap {f t m : Int} {l1 : List Chg} {f2 t2 m2 : Int} {l2 : List Chg} (h : mgB f t m l1 f2 t2 m2 l2 = true) (hg : ¬ t = f2) : mgCd f t m l1 f2 t2 m2 l2 = 17 ∧ mgSg f t m l1 f2 t2 m2 l2 = zSg := by
  unfold mgCd mgSg; rw [h]; simp [hg]
theorem mg_yes {f t m : Int} {l1 : List Chg} {f2 t2 m2 : Int} {l2 : List Chg} (h : mgB f t m l1 f2 t2 m2 l2 = true) (hg : t = f2) : mgCd f t m l1 f2 t2 m2 l2 = 0 ∧ mgSg f t m l1 f2 t2 m2 l2 = (f, t2, m2, mrgC l1 l2) := by
  unfold mgCd mgSg; rw [h]; simp [hg]
theorem segB_chs {f t m : Int} {cs : List Chg} (h : segB f t m cs = true) : chsB cs = true := by
  unfold segB at h
  simp only [Bool.and_eq_true] at h
  exact h.2

set_option maxRecDepth 100000 in
set_option maxHeartbeats 8000000 in
theorem implMergeSegs_c (f t m : Int) (A : Option Addr) (c : Nat) (l1 : List Chg) (f2 t2 m2 : Int) (A2 : Option Addr) (c2 : Nat) (l2 : List Chg) (B : Nat) (w : World) (h1 : Chs w B A l1) (h2 : Chs w B A2 l2) (hB : B ≤ w.heap.size) (hn1 : l1.length ≤ 1048576) (hn2 : l2.length ≤ 1048576) :
    Calls Try.prog 56 #[.agg #[.int .i64 f, .int .i64 t, .int .i64 m, .slice A l1.length c], .agg #[.int .i64 f2, .int .i64 t2, .int .i64 m2, .slice A2 l2.length c2]] w (RetSC w (mgSg f t m l1 f2 t2 m2 l2) (mgCd f t m l1 f2 t2 m2 l2)) := by
  have bA0 := ((Box.new w 54 #[.int .i64 f, .int .i64 t, .int .i64 m, .slice A l1.length c]).alloc (.cells #[.int .i64 f2, .int .i64 t2, .int .i64 m2, .slice A2 l2.length c2] 54)).alloc (.cells #[.int .i64 0, .int .i64 0, .int .i64 0, .slice none 0 0] 54)
  have bB0 := (Box.new (w.alloc (.cells #[.int .i64 f, .int .i64 t, .int .i64 m, .slice A l1.length c] 54)) 54 #[.int .i64 f2, .int .i64 t2, .int .i64 m2, .slice A2 l2.length c2]).alloc (.cells #[.int .i64 0, .int .i64 0, .int .i64 0, .slice none 0 0] 54)
  have bR0 := Box.new ((w.alloc (.cells #[.int .i64 f, .int .i64 t, .int .i64 m, .slice A l1.length c] 54)).alloc (.cells #[.int .i64 f2, .int .i64 t2, .int .i64 m2, .slice A2 l2.length c2] 54)) 54 #[.int .i64 0, .int .i64 0, .int .i64 0, .slice none 0 0]
  have hx0 := (((Nx.refl w).alloc (.cells #[.int .i64 f, .int .i64 t, .int .i64 m, .slice A l1.length c] 54)).alloc (.cells #[.int .i64 f2, .int .i64 t2, .int .i64 m2, .slice A2 l2.length c2] 54)).alloc (.cells #[.int .i64 0, .int .i64 0, .int .i64 0, .slice none 0 0] 54)
  simp only [World.size_alloc] at bB0 bR0
  cases hs1 : segB f t m l1
  · have HS1 := Lib.hid hs1
    have HR := Lib.hid (mg_bad (f := f) (t := t) (m := m) (l1 := l1) (f2 := f2) (t2 := t2) (m2 := m2) (l2 := l2) (by unfold mgB; rw [hs1]; rfl))
    clear hs1
    go_enter Try.func56, Try.ntmps56
    go_wp2_with fail
    generalize ((w.alloc (.cells #[.int .i64 f, .int .i64 t, .int .i64 m, .slice A l1.length c] 54)).alloc (.cells #[.int .i64 f2, .int .i64 t2, .int .i64 m2, .slice A2 l2.length c2] 54)).alloc (.cells #[.int .i64 0, .int .i64 0, .int .i64 0, .slice none 0 0] 54) = W at *
    refine (segRight_c f t m A c B l1 _ (h1.below hx0 hB) (Nat.le_trans hB hx0.size) hn1).mono ?_
    rintro e w1 ⟨rfl, hx1⟩
    rw [HS1.out]
    have bR := bR0.nx hx1
    have hX := hx0.trans hx1
    obtain ⟨rc0, rc1, rc2, rc3⟩ := bR.d4
    have rf0 := bR.frozen 0
    have rf1 := bR.frozen 1
    have rf2 := bR.frozen 2
    have rf3 := bR.frozen 3
    have rlt := bR.lt
    go_wp2
    have rq := (put4_box bR (.int .i64 0) (.int .i64 0) (.int .i64 0) (.slice none 0 0))
    have hnf := (put4_nx (g := (w.heap.size + 1 + 1)) hX (by omega) (.int .i64 0) (.int .i64 0) (.int .i64 0) (.slice none 0 0))
    unfold put4 at rq hnf
    generalize ((((w1.setCell ⟨(w.heap.size + 1 + 1), 0, none⟩ (.int .i64 0)).setCell ⟨(w.heap.size + 1 + 1), 1, none⟩ (.int .i64 0)).setCell ⟨(w.heap.size + 1 + 1), 2, none⟩ (.int .i64 0)).setCell ⟨(w.heap.size + 1 + 1), 3, none⟩ (.slice none 0 0)) = Wf at *
    obtain ⟨rg0, rg1, rg2, rg3⟩ := rq.d4
    exact bodyPost_ret (v := .tuple #[.agg #[.int .i64 0, .int .i64 0, .int .i64 0, .slice none 0 0], .int .i64 1]) (by simp [results, Try.results56, go_sem, rg0, rg1, rg2, rg3]) rfl ⟨none, 0, by rw [HR.out.1, HR.out.2]; rfl, by rw [HR.out.2]; exact Sl.none_ _ _ _ _ _, hnf⟩
  have HS1 := Lib.hid hs1
  cases hs2 : segB f2 t2 m2 l2
  · have HS2 := Lib.hid hs2
    have HR := Lib.hid (mg_bad (f := f) (t := t) (m := m) (l1 := l1) (f2 := f2) (t2 := t2) (m2 := m2) (l2 := l2) (by unfold mgB; rw [hs1, hs2]; rfl))
    clear hs1 hs2
    go_enter Try.func56, Try.ntmps56
    go_wp2_with fail
    generalize ((w.alloc (.cells #[.int .i64 f, .int .i64 t, .int .i64 m, .slice A l1.length c] 54)).alloc (.cells #[.int .i64 f2, .int .i64 t2, .int .i64 m2, .slice A2 l2.length c2] 54)).alloc (.cells #[.int .i64 0, .int .i64 0, .int .i64 0, .slice none 0 0] 54) = W at *
    refine (segRight_c f t m A c B l1 _ (h1.below hx0 hB) (Nat.le_trans hB hx0.size) hn1).mono ?_
    rintro e w0 ⟨rfl, hx1⟩
    rw [HS1.out]
    have hX0 := hx0.trans hx1
    obtain ⟨k0, k1, k2, k3⟩ := (bB0.nx hx1).d4
    go_wp2_with fail
    refine (segRight_c f2 t2 m2 A2 c2 B l2 _ (h2.below hX0 hB) (Nat.le_trans hB hX0.size) hn2).mono ?_
    rintro e w1 ⟨rfl, hx2⟩
    rw [HS2.out]
    have bR := (bR0.nx hx1).nx hx2
    have hX := hX0.trans hx2
    clear k0 k1 k2 k3
    obtain ⟨rc0, rc1, rc2, rc3⟩ := bR.d4
    have rf0 := bR.frozen 0
    have rf1 := bR.frozen 1
    have rf2 := bR.frozen 2
    have rf3 := bR.frozen 3
    have rlt := bR.lt
    go_wp2
    have rq := (put4_box bR (.int .i64 0) (.int .i64 0) (.int .i64 0) (.slice none 0 0))
    have hnf := (put4_nx (g := (w.heap.size + 1 + 1)) hX (by omega) (.int .i64 0) (.int .i64 0) (.int .i64 0) (.slice none 0 0))
    unfold put4 at rq hnf
    generalize ((((w1.setCell ⟨(w.heap.size + 1 + 1), 0, none⟩ (.int .i64 0)).setCell ⟨(w.heap.size + 1 + 1), 1, none⟩ (.int .i64 0)).setCell ⟨(w.heap.size + 1 + 1), 2, none⟩ (.int .i64 0)).setCell ⟨(w.heap.size + 1 + 1), 3, none⟩ (.slice none 0 0)) = Wf at *
    obtain ⟨rg0, rg1, rg2, rg3⟩ := rq.d4
    exact bodyPost_ret (v := .tuple #[.agg #[.int .i64 0, .int .i64 0, .int .i64 0, .slice none 0 0], .int .i64 1]) (by simp [results, Try.results56, go_sem, rg0, rg1, rg2, rg3]) rfl ⟨none, 0, by rw [HR.out.1, HR.out.2]; rfl, by rw [HR.out.2]; exact Sl.none_ _ _ _ _ _, hnf⟩
  have HS2 := Lib.hid hs2
  have hmg : mgB f t m l1 f2 t2 m2 l2 = true := by unfold mgB; rw [hs1, hs2]; rfl
  clear hs1 hs2
  go_enter Try.func56, Try.ntmps56
  go_wp2_with fail
  generalize ((w.alloc (.cells #[.int .i64 f, .int .i64 t, .int .i64 m, .slice A l1.length c] 54)).alloc (.cells #[.int .i64 f2, .int .i64 t2, .int .i64 m2, .slice A2 l2.length c2] 54)).alloc (.cells #[.int .i64 0, .int .i64 0, .int .i64 0, .slice none 0 0] 54) = W at *
  refine (segRight_c f t m A c B l1 _ (h1.below hx0 hB) (Nat.le_trans hB hx0.size) hn1).mono ?_
  rintro e w0 ⟨rfl, hx1⟩
  rw [HS1.out]
  have hX0 := hx0.trans hx1
  obtain ⟨k0, k1, k2, k3⟩ := (bB0.nx hx1).d4
  go_wp2_with fail
  refine (segRight_c f2 t2 m2 A2 c2 B l2 _ (h2.below hX0 hB) (Nat.le_trans hB hX0.size) hn2).mono ?_
  rintro e w1 ⟨rfl, hx2⟩
  rw [HS2.out]
  have bA := (bA0.nx hx1).nx hx2
  have bB := (bB0.nx hx1).nx hx2
  have bR := (bR0.nx hx1).nx hx2
  have hX := hX0.trans hx2
  clear k0 k1 k2 k3 bA0 bB0 bR0 hx0 hx1 hx2 hX0
  obtain ⟨k0, k1, k2, k3⟩ := bA.d4
  obtain ⟨m0, m1, m2', m3⟩ := bB.d4
  by_cases hg : t = f2
  case neg =>
    have HR := Lib.hid (mg_gap hmg hg)
    have hd : (t != f2) = true := by simp [hg]
    clear hmg
    obtain ⟨rc0, rc1, rc2, rc3⟩ := bR.d4
    have rf0 := bR.frozen 0
    have rf1 := bR.frozen 1
    have rf2 := bR.frozen 2
    have rf3 := bR.frozen 3
    have rlt := bR.lt
    go_wp2
    have rq := (put4_box bR (.int .i64 0) (.int .i64 0) (.int .i64 0) (.slice none 0 0))
    have hnf := (put4_nx (g := (w.heap.size + 1 + 1)) hX (by omega) (.int .i64 0) (.int .i64 0) (.int .i64 0) (.slice none 0 0))
    unfold put4 at rq hnf
    generalize ((((w1.setCell ⟨(w.heap.size + 1 + 1), 0, none⟩ (.int .i64 0)).setCell ⟨(w.heap.size + 1 + 1), 1, none⟩ (.int .i64 0)).setCell ⟨(w.heap.size + 1 + 1), 2, none⟩ (.int .i64 0)).setCell ⟨(w.heap.size + 1 + 1), 3, none⟩ (.slice none 0 0)) = Wf at *
    obtain ⟨rg0, rg1, rg2, rg3⟩ := rq.d4
    exact bodyPost_ret (v := .tuple #[.agg #[.int .i64 0, .int .i64 0, .int .i64 0, .slice none 0 0], .int .i64 17]) (by simp [results, Try.results56, go_sem, rg0, rg1, rg2, rg3]) rfl ⟨none, 0, by rw [HR.out.1, HR.out.2]; rfl, by rw [HR.out.2]; exact Sl.none_ _ _ _ _ _, hnf⟩
  have HR := Lib.hid (mg_yes hmg hg)
  have hd : (t != f2) = false := by simp [hg]
  obtain ⟨r, Hr⟩ : ∃ r, Hid (mrgC l1 l2 = r) := ⟨_, rfl⟩
  rw [Hr.out] at HR
  have HG := Lib.hid hg
  clear hmg hg
  have bAd : Box w1.drew w.heap.size 54 #[.int .i64 f, .int .i64 t, .int .i64 m, .slice A l1.length c] := bA
  have bBd : Box w1.drew (w.heap.size + 1) 54 #[.int .i64 f2, .int .i64 t2, .int .i64 m2, .slice A2 l2.length c2] := bB
  have bRd : Box w1.drew (w.heap.size + 1 + 1) 54 #[.int .i64 0, .int .i64 0, .int .i64 0, .slice none 0 0] := bR
  go_wp2_with fail
  refine wp_region_lex [false, false, false, false, false, false, false, false, true, false, true, false] (fun w' => (w'.cell? ⟨w.heap.size, 0, none⟩ = some (.int .i64 f) ∧ w'.cell? ⟨w.heap.size, 1, none⟩ = some (.int .i64 t) ∧ w'.cell? ⟨w.heap.size, 2, none⟩ = some (.int .i64 m) ∧ w'.cell? ⟨w.heap.size, 3, none⟩ = some (.slice A l1.length c)) ∧ (w'.cell? ⟨(w.heap.size + 1), 0, none⟩ = some (.int .i64 f2) ∧ w'.cell? ⟨(w.heap.size + 1), 1, none⟩ = some (.int .i64 t2) ∧ w'.cell? ⟨(w.heap.size + 1), 2, none⟩ = some (.int .i64 m2) ∧ w'.cell? ⟨(w.heap.size + 1), 3, none⟩ = some (.slice A2 l2.length c2))) (by kernel_rfl) (by kernel_rfl) rfl (by kernel_rfl) (fun _ _ d _ _ h => by cases d <;> exact h) (by exact ⟨bAd.d4, bBd.d4⟩) ?_
  repeat (first | (refine HL.take (v := ?_) (by rfl) ?_ ?_; rotate_left; (· (intro w hSw; (try dsimp only at hSw); go_simp; try with_reducible rfl)); (try simp only [Act.put, List.setIfInBounds_toArray, List.set_cons_zero, List.set_cons_succ])) | (refine HL.skip (by rfl) ?_; (try simp only [Act.put, List.setIfInBounds_toArray, List.set_cons_zero, List.set_cons_succ])))
  refine HL.call (by rfl) (fun K hK => ?_)
  go_simp
  refine (mergedChanges_c f t m A c l1 f2 t2 m2 A2 c2 l2 B _ (h1.below hX.drew hB) (h2.below hX.drew hB) (Nat.le_trans hB hX.drew.size) (segB_chs HS1.out) (segB_chs HS2.out)).mono ?_; intro e w3 hR9; unfold RetCg at hR9; rw [Hr.out] at hR9; obtain ⟨A9, c9, rfl, hS9, hx9⟩ := hR9; have bA9 := bAd.nx hx9; have bB9 := bBd.nx hx9; have bR9 := bRd.nx hx9; have hX9 := hX.drew.trans hx9; have zl : w.heap.size + 1 + 1 < w1.drew.heap.size := bRd.lt
  go_wp2_with fail
  refine hK.out _ _ (by exact ⟨bA9.d4, bB9.d4⟩) ?_
  clear hK K
  try simp only [Act.put, List.setIfInBounds_toArray, List.set_cons_zero, List.set_cons_succ]
  repeat (first | (refine HL.take (v := ?_) (by rfl) ?_ ?_; rotate_left; (· (intro w hSw; (try dsimp only at hSw); go_simp; try with_reducible rfl)); (try simp only [Act.put, List.setIfInBounds_toArray, List.set_cons_zero, List.set_cons_succ])) | (refine HL.skip (by rfl) ?_; (try simp only [Act.put, List.setIfInBounds_toArray, List.set_cons_zero, List.set_cons_succ])))
  obtain ⟨rc0, rc1, rc2, rc3⟩ := bR9.d4
  have rf0 := bR9.frozen 0
  have rf1 := bR9.frozen 1
  have rf2 := bR9.frozen 2
  have rf3 := bR9.frozen 3
  have rlt := bR9.lt
  refine HL.call (by rfl) (fun K hK => ?_)
  go_simp
  refine hK.out _ _ (by exact ⟨((((bA9.far (p := ⟨(w.heap.size + 1 + 1), 0, none⟩) (by simp <;> omega) (.int .i64 f)).far (p := ⟨(w.heap.size + 1 + 1), 1, none⟩) (by simp <;> omega) (.int .i64 t2)).far (p := ⟨(w.heap.size + 1 + 1), 2, none⟩) (by simp <;> omega) (.int .i64 m2)).far (p := ⟨(w.heap.size + 1 + 1), 3, none⟩) (by simp <;> omega) (.slice A9 r.length c9)).d4, ((((bB9.far (p := ⟨(w.heap.size + 1 + 1), 0, none⟩) (by simp <;> omega) (.int .i64 f)).far (p := ⟨(w.heap.size + 1 + 1), 1, none⟩) (by simp <;> omega) (.int .i64 t2)).far (p := ⟨(w.heap.size + 1 + 1), 2, none⟩) (by simp <;> omega) (.int .i64 m2)).far (p := ⟨(w.heap.size + 1 + 1), 3, none⟩) (by simp <;> omega) (.slice A9 r.length c9)).d4⟩) ?_
  clear hK K
  try simp only [Act.put, List.setIfInBounds_toArray, List.set_cons_zero, List.set_cons_succ]
  repeat (first | (refine HL.take (v := ?_) (by rfl) ?_ ?_; rotate_left; (· (intro w hSw; (try dsimp only at hSw); go_simp; try with_reducible rfl)); (try simp only [Act.put, List.setIfInBounds_toArray, List.set_cons_zero, List.set_cons_succ])) | (refine HL.skip (by rfl) ?_; (try simp only [Act.put, List.setIfInBounds_toArray, List.set_cons_zero, List.set_cons_succ])))
  refine HL.done ?_
  go_wp2
  have rq := (put4_box bR9 (.int .i64 f) (.int .i64 t2) (.int .i64 m2) (.slice A9 r.length c9))
  have hnf := (put4_nx (g := (w.heap.size + 1 + 1)) hX9 (by omega) (.int .i64 f) (.int .i64 t2) (.int .i64 m2) (.slice A9 r.length c9))
  unfold put4 at rq hnf
  have hSf := (((((hS9.low (lo' := w.heap.size + 1 + 1 + 1) (by omega)).far (p := ⟨(w.heap.size + 1 + 1), 0, none⟩) (by simp) (.int .i64 f)).far (p := ⟨(w.heap.size + 1 + 1), 1, none⟩) (by simp) (.int .i64 t2)).far (p := ⟨(w.heap.size + 1 + 1), 2, none⟩) (by simp) (.int .i64 m2)).far (p := ⟨(w.heap.size + 1 + 1), 3, none⟩) (by simp) (.slice A9 r.length c9))
  replace hSf := hSf.low (lo' := w.heap.size) (by omega)
  generalize ((((w3.setCell ⟨(w.heap.size + 1 + 1), 0, none⟩ (.int .i64 f)).setCell ⟨(w.heap.size + 1 + 1), 1, none⟩ (.int .i64 t2)).setCell ⟨(w.heap.size + 1 + 1), 2, none⟩ (.int .i64 m2)).setCell ⟨(w.heap.size + 1 + 1), 3, none⟩ (.slice A9 r.length c9)) = Wf at *
  obtain ⟨rg0, rg1, rg2, rg3⟩ := rq.d4
  exact bodyPost_ret (v := .tuple #[.agg #[.int .i64 f, .int .i64 t2, .int .i64 m2, .slice A9 r.length c9], .int .i64 0]) (by simp [results, Try.results56, go_sem, rg0, rg1, rg2, rg3]) rfl ⟨A9, c9, by rw [HR.out.1, HR.out.2], by rw [HR.out.2]; exact hSf, hnf⟩
end Go.Proofs.Ytihpadelfpogmaa
